/- Layer 8, the laws: what every right program knows. -/
import Derived.Test.YtniknldeafmgaaaHa
namespace Go.Proofs.Ytniknldeafmgaaa
set_option linter.unusedSimpArgs false
set_option linter.unusedVariables false
open Go Go.RowKit

/-- Behind one more block and a call. -/
theorem stepB {w a : World} {o : Obj} {c : World} (h : Below w.heap.size w a) (k : Below (a.alloc o).heap.size (a.alloc o) c) : Below w.heap.size w c := nextB (nextB h (b1 a o)) k
theorem stepI {a : World} {o : Obj} {c : World} {ad : Option Addr} {xs : List Int} (h : Ints a ad xs) (k : Below (a.alloc o).heap.size (a.alloc o) c) : Ints c ad xs := (h.next (b1 a o)).next k
set_option maxRecDepth 100000 in
set_option maxHeartbeats 4000000 in
theorem alive_any (w : World) : Calls Try.prog 15 #[] w (Ret (.bool true) w) := by
  go_enter Try.func15, Try.ntmps15
  go_upto_region 6 with (first
    | (go_at_call 16; refine (day10 _ _ _ (lit_two w 1 0)).mono ?_; rintro e w1 ⟨a1, c1, rfl, hI1, hw1⟩; have B1 := Lib.hid (stepB (Below.refl _ _) hw1); replace hI1 := Lib.hid hI1; clear hw1)
    | (go_at_call 19; refine (back00 _ _ _ (lit_two w1 0 0)).mono ?_; rintro e w2 ⟨a2, c2, rfl, hI2, hw2⟩; have B2 := Lib.hid (stepB B1.out hw2); replace hI1 := Lib.hid (stepI hI1.out hw2); replace hI2 := Lib.hid hI2; clear hw2)
    | (go_at_call 34; refine (word10 _ _ _ (lit_two w2 1 0)).mono ?_; rintro e w3 ⟨rfl, hw3⟩; have B3 := Lib.hid (stepB B2.out hw3); replace hI1 := Lib.hid (stepI hI1.out hw3); replace hI2 := Lib.hid (stepI hI2.out hw3); clear hw3)
    | (go_at_call 32; refine (sweep10 _ _ _ (lit_two w3 1 0)).mono ?_; rintro e w4 ⟨a4, c4, rfl, hI4, hw4⟩; have B4 := Lib.hid (stepB B3.out hw4); replace hI1 := Lib.hid (stepI hI1.out hw4); replace hI2 := Lib.hid (stepI hI2.out hw4); replace hI4 := Lib.hid hI4; clear hw4)
    | (go_at_call 38; refine (same222 _).mono ?_; rintro e w5 ⟨rfl, hw5⟩; have B5 := Lib.hid (nextB B4.out hw5); replace hI1 := Lib.hid (hI1.out.next hw5); replace hI2 := Lib.hid (hI2.out.next hw5); replace hI4 := Lib.hid (hI4.out.next hw5); clear hw5))
  have S1 := Lib.hid (same_two a1 _ c1 2 2 1 _ (hI1.out.next (b1 w5 _)) (lit_two w5 2 1))
  clear hI1 B1 B2 B3 B4
  go_wp2_with (go_at_call 18; refine S1.out.mono ?_; rintro e w6 ⟨rfl, hw6⟩; clear S1)
  have B6 := Lib.hid (stepB B5.out hw6)
  have J2 := Lib.hid ((stepI hI2.out hw6).next (b1 w6 (.cells #[.int .i64 2, .int .i64 2] 3)))
  have J4 := Lib.hid (stepI hI4.out hw6)
  clear hI2 hI4 hw6 B5
  refine (same_two a2 _ c2 2 2 2 _ J2.out (lit_two w6 2 2)).mono ?_
  rintro e w7 ⟨rfl, hw7⟩
  have B7 := Lib.hid (stepB B6.out hw7)
  have S4 := Lib.hid (same_two a4 _ c4 2 2 1 _ ((stepI J4.out hw7).next (b1 w7 (.cells #[.int .i64 2, .int .i64 1] 3))) (lit_two w7 2 1))
  clear J2 J4 hw7 B6
  go_wp2_with (go_at_call 18; refine S4.out.mono ?_; rintro e w8 ⟨rfl, hw8⟩)
  go_ret
  exact Ret.mk rfl (stepB B7.out hw8)
end Go.Proofs.Ytniknldeafmgaaa
