/- BreedMore, walked: the early ways. -/
import Derived.Test.YtmejahoodeeijaaDoorNb
import Derived.Test.YtmejahoodeeijaaDoorHc
namespace Go.Proofs.YtmejahoodeeijaaDoor
open Go Go.RowKit

theorem box_load (w : World) (x : T3) : Blk (w.alloc (.cells #[.int .i64 x.1, .int .i64 x.2.1, .int .i64 x.2.2] 29)) w.heap.size 29 #[.int .i64 x.1, .int .i64 x.2.1, .int .i64 x.2.2] := Blk.new _ _ _
/-- What ends the law before it asks anything. -/
def moreEnds (n : Int) (L : List T3) (x : T3) (s : List UInt8) : Bool := decide (60 ≤ L.length) || !(decide (s.length ≤ 100)) || decide (n < 1) || decide (8 < n) || lisE n L != 0 || !(isT n x)
set_option maxRecDepth 100000 in
set_option maxHeartbeats 4000000 in
theorem more_early (n : Int) (a : Option Addr) (l c : Nat) (L : List T3) (x : T3) (s : List UInt8) (w : World) (h : Trips w a L) (hl : L.length = l) (hT : Tab w) (he : moreEnds n L x s = true) :
    Calls Tryd.prog 4 #[.int .i64 n, .slice a l c, t3V x, strV s] w (Ret (.bool true) w) := by
  subst hl
  have bA := b1 w (.cells #[.int .i64 x.1, .int .i64 x.2.1, .int .i64 x.2.2] 29)
  have hA := box_load w x
  have F := Lib.hid (fun W => few_any none 0 0 s W)
  have R := Lib.hid (fun (h6 : L.length < 60) W (hW : Below w.heap.size w W) => refList_any n a L.length c L W (h.next hW) rfl (by omega))
  have I := Lib.hid (fun W => refIsTriple_any n x.1 x.2.1 x.2.2 W)
  have C := Lib.hid (fun W (hW : Below w.heap.size w W) => alive_any W (hT.next hW))
  clear h hT
  have x0 := hA.c 0 rfl
  have x1 := hA.c 1 rfl
  have x2 := hA.c 2 rfl
  by_cases h1 : 60 ≤ L.length
  · have i1 : (60 : Int) ≤ (L.length : Int) := by omega
    replace bA := Lib.hid bA
    replace hA := Lib.hid hA
    go_enter Tryd.func4, Tryd.ntmps4
    go_wp2_with (first
      | (go_at_call 7; (with_reducible refine (C.out _ bA.out).mono ?_); rintro e1 w1 ⟨rfl, hb1⟩))
    go_ret
    exact Ret.mk rfl (nextB bA.out hb1)
  · have i1 : ¬ (60 : Int) ≤ (L.length : Int) := by omega
    have h6 : L.length < 60 := by omega
    have F0 : (decide (0 ≤ 100) && decide (s.length ≤ 100)) = decide (s.length ≤ 100) := by simp
    rw [F0] at F
    clear F0
    by_cases h2 : s.length ≤ 100
    · rw [decide_eq_true h2] at F
      by_cases h3 : n < 1
      · skip
        replace bA := Lib.hid bA
        replace hA := Lib.hid hA
        go_enter Tryd.func4, Tryd.ntmps4
        go_wp2_with (first
          | (go_at_call 8; (with_reducible refine (F.out _).mono ?_); rintro e2 w2 ⟨rfl, rfl⟩)
          | (go_at_call 7; (with_reducible refine (C.out _ bA.out).mono ?_); rintro e1 w1 ⟨rfl, hb1⟩))
        go_ret
        exact Ret.mk rfl (nextB bA.out hb1)
      · by_cases h4 : 8 < n
        · skip
          replace bA := Lib.hid bA
          replace hA := Lib.hid hA
          go_enter Tryd.func4, Tryd.ntmps4
          go_wp2_with (first
            | (go_at_call 8; (with_reducible refine (F.out _).mono ?_); rintro e2 w2 ⟨rfl, rfl⟩)
            | (go_at_call 7; (with_reducible refine (C.out _ bA.out).mono ?_); rintro e1 w1 ⟨rfl, hb1⟩))
          go_ret
          exact Ret.mk rfl (nextB bA.out hb1)
        · have n1 : ¬ n < 1 := h3
          have n2 : ¬ 8 < n := h4
          by_cases h5 : lisE n L = 0
          · have hx : isT n x = false := by
              unfold moreEnds at he
              simpa [h1, h2, h3, h4, h5] using he
            change Hid (∀ W, Calls Tryd.prog 10 _ W (Ret (.bool (isT n x)) W)) at I
            rw [hx] at I
            rw [h5] at R
            clear he hx
            replace bA := Lib.hid bA
            replace hA := Lib.hid hA
            go_enter Tryd.func4, Tryd.ntmps4
            go_wp2_with (first
              | (go_at_call 8; (with_reducible refine (F.out _).mono ?_); rintro e2 w2 ⟨rfl, rfl⟩)
              | (go_at_call 9; (with_reducible refine (R.out h6 _ bA.out).mono ?_); rintro e3 w3 ⟨rfl, hb3⟩; have hA3 := hA.out.ext hb3; clear x0 x1 x2; have x0 := hA3.c 0 rfl; have x1 := hA3.c 1 rfl; have x2 := hA3.c 2 rfl; replace hA3 := Lib.hid hA3)
              | (go_at_call 10; (with_reducible refine (I.out _).mono ?_); rintro e4 w4 ⟨rfl, hb4⟩)
              | (go_at_call 7; (with_reducible refine (C.out _ (nextB (nextB bA.out hb3) hb4)).mono ?_); rintro e1 w1 ⟨rfl, hb1⟩))
            go_ret
            exact Ret.mk rfl (nextB (nextB (nextB bA.out hb3) hb4) hb1)
          · have h5b : (lisE n L == 0) = false := by rw [beq_eq_false_iff_ne]; exact h5
            clear he
            generalize lisE n L = r at *
            replace bA := Lib.hid bA
            replace hA := Lib.hid hA
            go_enter Tryd.func4, Tryd.ntmps4
            go_wp2_with (first
              | (go_at_call 8; (with_reducible refine (F.out _).mono ?_); rintro e2 w2 ⟨rfl, rfl⟩)
              | (go_at_call 9; (with_reducible refine (R.out h6 _ bA.out).mono ?_); rintro e3 w3 ⟨rfl, hb3⟩; have hA3 := hA.out.ext hb3; clear x0 x1 x2; have x0 := hA3.c 0 rfl; have x1 := hA3.c 1 rfl; have x2 := hA3.c 2 rfl; replace hA3 := Lib.hid hA3)
              | (go_at_call 7; (with_reducible refine (C.out _ (nextB bA.out hb3)).mono ?_); rintro e1 w1 ⟨rfl, hb1⟩))
            go_ret
            exact Ret.mk rfl (nextB (nextB bA.out hb3) hb1)
    · rw [decide_eq_false h2] at F
      replace bA := Lib.hid bA
      replace hA := Lib.hid hA
      go_enter Tryd.func4, Tryd.ntmps4
      go_wp2_with (first
        | (go_at_call 8; (with_reducible refine (F.out _).mono ?_); rintro e2 w2 ⟨rfl, rfl⟩)
        | (go_at_call 7; (with_reducible refine (C.out _ bA.out).mono ?_); rintro e1 w1 ⟨rfl, hb1⟩))
      go_ret
      exact Ret.mk rfl (nextB bA.out hb1)
end Go.Proofs.YtmejahoodeeijaaDoor
