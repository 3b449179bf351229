/- Layer 5, by the program: Joined. -/
import Derived.Test.YtfdaljekehkkaaaGreatDoorFc
import Derived.Test.YtfdaljekehkkaaaGreatDoorEd
namespace Go.Proofs.YtfdaljekehkkaaaGreatDoor
open Go Go.RowKit

/-- What Joined returns: the parts and an error. -/
def joiE (n : Int) (L : List T3) (x : Int) : List Nat × Int :=
  if memE n L = 0 then (if stB n.toNat x then (partsL L x.toNat, 0) else ([], 2)) else ([], memE n L)
def JoinR (r : List Nat × Int) (w : World) (e : Ending) (w' : World) : Prop :=
  ∃ v, e = .returned (.tuple #[v, .int .i64 r.2]) ∧ w'.ownsRow w.heap.size 3 1 v r.1.length (lN r.1) ∧ Below w.heap.size w w'
end Go.Proofs.YtfdaljekehkkaaaGreatDoor
