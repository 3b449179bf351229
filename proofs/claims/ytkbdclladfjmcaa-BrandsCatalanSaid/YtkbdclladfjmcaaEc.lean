/- Layer 2: the number between two corners, by the specification. -/
import Derived.Test.YtkbdclladfjmcaaEa
namespace Go.Proofs.Ytkbdclladfjmcaa
open Go Go.RowKit

/-- The number ahead of the one for d. -/
def lastD (xs : List Int) (i : Nat) : Nat → Int
  | 0 => -1
  | d + 1 => eD xs i d
theorem eD_next (xs : List Int) (i d : Nat) : eD xs i (d + 1) = nth xs ((i + d) % xs.length) * eD xs i d - lastD xs i d := by
  cases d with
  | zero => simp [eD, lastD]
  | succ d => rw [eD, lastD, Nat.add_assoc]
end Go.Proofs.Ytkbdclladfjmcaa
