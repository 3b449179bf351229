/- Layer 5, by the specification: Knot. -/
import Derived.Test.YtfdaljekehkkaaaGreatDoorPe
namespace Go.Proofs.YtfdaljekehkkaaaGreatDoor
open Go Go.RowKit

theorem kntE_some {m k : Nat} {L : List T3} (h0 : memE m L = 0) (h : FirstN (kntB L) (pw m) = some k) : kntE m L = ((k : Int), 0) := by
  unfold kntE
  rw [if_pos h0, Int.toNat_natCast, h]
theorem kntE_none {m : Nat} {L : List T3} (h0 : memE m L = 0) (h : FirstN (kntB L) (pw m) = none) : kntE m L = (0, 10) := by
  unfold kntE
  rw [if_pos h0, Int.toNat_natCast, h]
theorem kntE_bad {n : Int} {L : List T3} (h0 : memE n L ≠ 0) : kntE n L = (0, memE n L) := by
  unfold kntE
  rw [if_neg h0]
end Go.Proofs.YtfdaljekehkkaaaGreatDoor
