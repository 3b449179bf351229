/- Layer 5, by the program: do triples fit? (apart: the other seat has no such function) -/
import Derived.Test.YtfdaljekehkkaaaGreatDoorFb
namespace Go.Proofs.YtfdaljekehkkaaaGreatDoor
open Go Go.RowKit

set_option maxRecDepth 100000 in
set_option maxHeartbeats 1000000 in
theorem fit_any (a : Option Addr) (l c : Nat) (L : List T3) (m : Nat) (w : World) (hTr : Trips w a L) (hl : L.length = l) (hl9 : l ≤ 1000) (hok : ∀ t ∈ L, OkT t) (h1 : 1 ≤ m) (h8 : m ≤ 8) (hT : Tab w) :
    Calls Tryz.prog 20 #[.slice a l c, .int .i64 (m : Nat)] w (Ret (.bool (bldT m L).isSome) w) := by
  have B := Lib.hid (bld_any a l c L m w hTr hl hl9 hok h1 h8 hT)
  have A := Lib.hid (all_any m (by omega) w)
  clear hTr hl hok hT
  generalize bldT m L = o at *
  go_enter Tryz.func20, Tryz.ntmps20
  go_wp2_with (first
    | (go_at_call 29; (with_reducible refine A.out.mono ?_); rintro e w1 ⟨rfl, rfl⟩)
    | (go_at_call 28; (with_reducible refine B.out.mono ?_); rintro e w1 ⟨v, rfl, _, hb⟩))
  go_ret
  exact Ret.mk rfl hb
end Go.Proofs.YtfdaljekehkkaaaGreatDoor
