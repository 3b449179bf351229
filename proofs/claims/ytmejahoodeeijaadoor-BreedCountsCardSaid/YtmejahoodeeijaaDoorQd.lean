/- BreedCounts, walked. -/
import Derived.Test.YtmejahoodeeijaaDoorQc
import Derived.Test.YtmejahoodeeijaaDoorHc
namespace Go.Proofs.YtmejahoodeeijaaDoor
open Go Go.RowKit

set_option maxRecDepth 100000 in
set_option maxHeartbeats 1000000 in
theorem counts_any (n : Int) (w : World) (hT : Tab w) : Calls Tryd.prog 3 #[.int .i64 n] w (Ret (.bool true) w) := by
  have A := Lib.hid (Count_any n w)
  have B := Lib.hid (fun W => refCount_any n W)
  have C := Lib.hid alive_any
  replace hT := Lib.hid hT
  generalize (cntE n).1 = x at *
  generalize (cntE n).2 = e at *
  go_enter Tryd.func3, Tryd.ntmps3
  go_wp2_with (first
    | (go_at_call 5; (with_reducible refine A.out.mono ?_); rintro e1 w1 ⟨rfl, hb1⟩)
    | (go_at_call 6; (with_reducible refine (B.out _).mono ?_); rintro e2 w2 ⟨rfl, hb2⟩)
    | (go_at_call 7; (with_reducible refine (C.out _ (hT.out.next (nextB hb1 hb2))).mono ?_); rintro e3 w3 ⟨rfl, hb3⟩))
  go_ret
  exact Ret.mk rfl (nextB (nextB hb1 hb2) hb3)
end Go.Proofs.YtmejahoodeeijaaDoor
