/- BrandsChoices: Choices returns the number, or the error, of the specification: the walk. -/
import Derived.Test.YtflbaadfbjpakaaDb
namespace Go.Proofs.Ytflbaadfbjpakaa
open Go Go.RowKit

set_option maxRecDepth 100000 in
set_option maxHeartbeats 1600000 in
theorem choices_law (n : Int) (a : Option Addr) (len cap : Nat) (L : List (Int × Int)) (i k : Int) (w : World) (h : Prs w a L) (hl : L.length = len) (hcap : len ≤ cap) (_hnil : a = none → cap = 0) :
    Calls Try.prog 6 #[.int .i64 n, .slice a len cap, .int .i64 i, .int .i64 k] w (Ret (.bool true) w) := by
  by_cases hh : len ≤ 60 ∧ ¬ (10 < n ∧ n ≤ 12)
  · obtain ⟨h60, hn⟩ := hh
    obtain ⟨x, e, C1, C2⟩ : ∃ x e : Int, Hid (∀ W, Below w.heap.size w W → Calls Try.prog 34 #[.int .i64 n, .slice a len cap, .int .i64 i, .int .i64 k] W (Ret (.tuple #[.int .i64 x, .int .i64 e]) W)) ∧
        Hid (∀ W, Below w.heap.size w W → Calls Try.prog 35 #[.int .i64 n, .slice a len cap, .int .i64 i, .int .i64 k] W (Ret (.tuple #[.int .i64 x, .int .i64 e]) W)) := by
      by_cases hP : ChoP n L i k
      · obtain ⟨hB, i0, i1, k0, k1, hik⟩ := hP
        obtain ⟨n, rfl⟩ : ∃ m : Nat, n = m := ⟨n.toNat, by have := hB.1; omega⟩
        obtain ⟨i, rfl⟩ : ∃ m : Nat, i = m := ⟨i.toNat, by omega⟩
        obtain ⟨k, rfl⟩ : ∃ m : Nat, k = m := ⟨k.toNat, by omega⟩
        have ht := hB.tris
        have h12 := hB.2.1
        exact ⟨_, _, Lib.hid (fun W hW => Choices_yes n i k a len cap L W (h.next hW) hl hcap hB (by omega) (by omega) (by omega) (by omega)), Lib.hid (fun W hW => refChoices_yes n i k a len cap L W (h.next hW) hl hB (by omega) (by omega) (by omega))⟩
      · exact ⟨_, _, Lib.hid (fun W hW => Choices_no n i k a len cap L W (h.next hW) hl hcap (by omega) hP), Lib.hid (fun W hW => refChoices_no n i k a len cap L W (h.next hW) hl (by omega) hP)⟩
    clear h hl hcap
    by_cases hn10 : n ≤ 10
    · go_enter Try.func6, Try.ntmps6
      go_wp2_with fail
      refine (C1.out _ (Below.refl _ _)).mono ?_
      rintro e w1 ⟨rfl, hb1⟩
      dsimp only
      go_wp2_with fail
      refine (C2.out _ hb1).mono ?_
      rintro e w2 ⟨rfl, hb2⟩
      dsimp only
      replace hb2 := nextB hb1 hb2
      go_wp2_with (go_at_call 17; refine (alive_any _).mono ?_; rintro e w3 ⟨rfl, hb3⟩)
      go_ret
      exact Ret.mk rfl (nextB hb2 hb3)
    · have hn12 : 12 < n := by omega
      go_enter Try.func6, Try.ntmps6
      go_wp2_with fail
      refine (C1.out _ (Below.refl _ _)).mono ?_
      rintro e w1 ⟨rfl, hb1⟩
      dsimp only
      go_wp2_with fail
      refine (C2.out _ hb1).mono ?_
      rintro e w2 ⟨rfl, hb2⟩
      dsimp only
      replace hb2 := nextB hb1 hb2
      go_wp2_with (go_at_call 17; refine (alive_any _).mono ?_; rintro e w3 ⟨rfl, hb3⟩)
      go_ret
      exact Ret.mk rfl (nextB hb2 hb3)
  · have hh' : 60 < len ∨ (len ≤ 60 ∧ 10 < n ∧ n ≤ 12) := by omega
    clear hh h hl
    rcases hh' with hgt | ⟨h60, h10, h12⟩
    all_goals (
      go_enter Try.func6, Try.ntmps6
      go_wp2_with (go_at_call 17; refine (alive_any _).mono ?_; rintro e w2 ⟨rfl, hb2⟩)
      go_ret
      exact Ret.mk rfl hb2)
end Go.Proofs.Ytflbaadfbjpakaa
