/- Layer 5, by the specification: the errors of n and triples. -/
import Derived.Test.YtfdaljekehkkaaaGreatDoorJa
namespace Go.Proofs.YtfdaljekehkkaaaGreatDoor
open Go Go.RowKit

theorem refGiven_any (n : Int) (a : Option Addr) (l c : Nat) (L : List T3) (w : World) (h : Trips w a L) (hl : L.length = l) (hl9 : l ≤ 1000) :
    Calls Tryz.prog 42 #[.int .i64 n, .slice a l c] w (Ret (.int .i64 (memE n L)) w) := by
  have K := Lib.hid (refList_any n a l c L w h hl hl9)
  rw [memE_lis]
  unfold numB
  generalize lisE n L = r at *
  clear h hl
  by_cases h1 : n < 1
  · rw [decide_eq_false (show ¬ 1 ≤ n by omega)]
    simp only [Bool.false_and, Bool.false_eq_true, if_false]
    go_enter Tryz.func42, Tryz.ntmps42
    go_wp2
    go_ret
    exact Ret.mk rfl (Below.refl _ _)
  · have h1' : 1 ≤ n := by omega
    rw [decide_eq_true h1']
    clear h1
    by_cases h2 : n ≤ 8
    · rw [decide_eq_true h2]
      simp only [Bool.and_self, if_true]
      go_enter Tryz.func42, Tryz.ntmps42
      go_wp2_with (go_at_call 10; refine K.out.mono ?_; rintro e w2 ⟨rfl, hb2⟩)
      go_ret
      exact Ret.mk rfl hb2
    · rw [decide_eq_false h2]
      have h2' : 8 < n := by omega
      clear h2
      simp only [Bool.and_false, Bool.false_eq_true, if_false]
      go_enter Tryz.func42, Tryz.ntmps42
      go_wp2
      go_ret
      exact Ret.mk rfl (Below.refl _ _)
end Go.Proofs.YtfdaljekehkkaaaGreatDoor
