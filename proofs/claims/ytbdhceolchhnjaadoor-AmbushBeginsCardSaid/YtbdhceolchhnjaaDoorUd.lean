/- Layer 4: AmbushPaired returns true, and changes nothing. -/
import Derived.Test.YtbdhceolchhnjaaDoorUc
namespace Go.Proofs.YtbdhceolchhnjaaDoor
open Go Go.RowKit

theorem strE_few (n : Nat) : (decide (n ≤ 40) && decide (strE.size ≤ 40) && decide (strE.size ≤ 40)) = decide (n ≤ 40) := by
  have : strE.size = 0 := rfl
  rw [this]; simp

end Go.Proofs.YtbdhceolchhnjaaDoor
