/- Layer 8, by the program: list, day, back. -/
import Derived.Test.YtniknldeafmgaaaGb
namespace Go.Proofs.Ytniknldeafmgaaa
set_option linter.unusedSimpArgs false
set_option linter.unusedVariables false
open Go Go.RowKit

theorem ints_box {W : World} {B a b : Nat} {t : TypeId} {g : Nat → Nat} (h : Blk W B t (pC a b g)) (ha : a ≤ 6) : Ints W (some ⟨B, 2, none⟩) (stL a g) := by
  refine .inr ⟨B, 2, rfl, fun i hi => ?_⟩
  rw [stL_len] at hi
  rw [stL_nth g hi]
  exact h.pg (by omega)
set_option maxRecDepth 100000 in
theorem list_any (a b : Nat) (g : Nat → Nat) (w : World) (hp : IsP a b g) : Calls Try.prog 60 #[pV a b g] w (CopyR (stL a g) w) := by
  have h1 := hp.a1
  have h6 := hp.a6
  have k0 := Blk.new w 66 (pC a b g)
  have hI := ints_box k0 h6
  have hC := Lib.hid (fun c => copy_any w.heap.size 2 a c (stL a g) _ hI (stL_len a g) (by omega) (by omega))
  replace k0 := Lib.hid k0
  replace hI := Lib.hid hI
  clear hp
  have h6' : (a : Int) ≤ 6 := by omega
  go_enter Try.func60, Try.ntmps60
  go_wp2_with (go_at_call 75; refine (hC.out _).mono ?_; rintro _ w1 ⟨B, c, rfl, hc, hB, hcell, hw1⟩)
  go_ret
  exact ⟨B, c, rfl, hc, by simp only [World.size_alloc] at hB; omega, hcell, nextB (b1 _ _) hw1⟩
end Go.Proofs.Ytniknldeafmgaaa
