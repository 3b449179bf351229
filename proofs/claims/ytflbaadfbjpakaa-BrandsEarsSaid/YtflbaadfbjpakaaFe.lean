/- Layer 2: is a list another one, begun somewhere else? -/
import Derived.Test.YtflbaadfbjpakaaMg
namespace Go.Proofs.Ytflbaadfbjpakaa
open Go Go.RowKit

set_option maxRecDepth 100000 in
set_option maxHeartbeats 4000000 in
theorem turned_yes (b1 o1 c1 b2 o2 c2 n s0 : Nat) (xs ys : List Int) (w : World) (h1 : ∀ i, i < n → w.cell? ⟨b1, o1 + i, none⟩ = some (.int .i64 (nth xs i))) (h2 : ∀ i, i < n → w.cell? ⟨b2, o2 + i, none⟩ = some (.int .i64 (nth ys i)))
    (hn0 : 0 < n) (hn : n ≤ 1000) (hs0 : s0 < n) (hh : ∀ i, i < n → nth xs i = nth ys ((i + s0) % n)) :
    Calls Try.prog 46 #[.slice (some ⟨b1, o1, none⟩) n c1, .slice (some ⟨b2, o2, none⟩) n c2] w (Ret (.bool true) w) := by
  replace h1 := Lib.hid h1
  replace h2 := Lib.hid h2
  replace hh := Lib.hid hh
  go_enter Try.func46, Try.ntmps46
  go_wp2
  go_loopw [5] (fun s wr => ∃ k : Nat, k ≤ s0 ∧ s = .int .i64 k ∧ Below w.heap.size w wr) (fun s _ => n - (intOf s).toNat)
  case atStart => exact ⟨0, by omega, rfl, Below.refl _ _⟩
  case round =>
    obtain ⟨k, hk, rfl, B0⟩ := hrel
    have hkn : (k : Int) < (n : Int) := by omega
    go_wp2
    go_loopw [6, 7] (fun a i wr => ∃ (t : Nat) (b : Bool), t ≤ n ∧ i = .int .i64 t ∧ a = .bool b ∧ (b = true ↔ ∀ j, j < t → nth xs j = nth ys ((j + k) % n)) ∧ Below w.heap.size w wr) (fun _ i _ => n - (intOf i).toNat)
    case atStart => exact ⟨0, true, by omega, rfl, rfl, by simp, B0⟩
    case round =>
      clear B0
      obtain ⟨t, b, ht, rfl, rfl, hb, B0⟩ := hrel
      replace hb := Lib.hid hb
      by_cases hlt : t < n
      · obtain ⟨m3, m4, m5⟩ := mod_at (t + k) n (by omega)
        rw [Int.natCast_add] at m3 m4 m5
        have hm : (t + k) % n < n := Nat.mod_lt _ (by omega)
        have x0 := cellX (cellB B0 (h1.out t hlt))
        have x1 := cellX (cellB B0 (h2.out _ hm))
        have hi0 : (t : Int) < (n : Int) := by omega
        have hnx : Hid (∀ b2, (b2 = true ↔ (b = true ∧ nth xs t = nth ys ((t + k) % n))) → (b2 = true ↔ ∀ j, j < t + 1 → nth xs j = nth ys ((j + k) % n))) := Lib.hid fun b2 h => by
          rw [h, hb.out]
          constructor
          · rintro ⟨u1, u2⟩ j hj
            by_cases e : j = t
            · subst e; exact u2
            · exact u1 j (by omega)
          · intro u
            exact ⟨fun j hj => u j (by omega), u t (by omega)⟩
        clear hb
        generalize nth xs t = y1 at *
        generalize nth ys ((t + k) % n) = y2 at *
        cases b
        · have e1 := Lib.hid (hnx.out false (by simp))
          clear hnx
          go_wp2
          refine wp_region_ext (by kernel_rfl) (by kernel_rfl) ?_
          repeat (go_big_quiet_step (fail))
          refine wpQuiet_nil ?_
          rintro ⟨w1, hw1⟩
          dsimp only
          have B1 := nextB B0 hw1
          clear x0 x1 hw1 B0
          go_wp2
          go_roundw
          case rel => exact ⟨t + 1, false, by omega, by go_num, rfl, e1.out, B1⟩
          case measure => simp [intOf]; omega
        · have e1 := Lib.hid (hnx.out (y1 == y2) (by simp))
          clear hnx
          go_wp2
          refine wp_region_ext (by kernel_rfl) (by kernel_rfl) ?_
          repeat (go_big_quiet_step (fail))
          refine wpQuiet_nil ?_
          rintro ⟨w1, hw1⟩
          dsimp only
          have B1 := nextB B0 hw1
          clear x0 x1 hw1 B0
          go_wp2
          go_roundw
          case rel => exact ⟨t + 1, (y1 == y2), by omega, by go_num, rfl, e1.out, B1⟩
          case measure => simp [intOf]; omega
      · obtain rfl : t = n := by omega
        cases b
        · have hne : k ≠ s0 := by
            rintro rfl
            have := hb.out.2 hh.out
            cases this
          clear hb
          go_wp2
          go_roundw
          case rel => exact ⟨k + 1, by omega, by go_num, B0⟩
          case measure => simp [intOf]; omega
        · clear hb
          go_wp2
          go_ret
          exact Ret.mk rfl B0
end Go.Proofs.Ytflbaadfbjpakaa
