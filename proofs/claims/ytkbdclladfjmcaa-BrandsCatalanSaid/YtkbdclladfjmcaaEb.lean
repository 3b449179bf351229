/- Layer 2: the numbers from a corner on are put into the map. -/
import Derived.Test.YtkbdclladfjmcaaEa
namespace Go.Proofs.Ytkbdclladfjmcaa
open Go Go.RowKit
end Go.Proofs.Ytkbdclladfjmcaa
