/- Layer 4, by the program: Careful. -/
import Derived.Test.YtbdhceolchhnjaaDoorSa
import Derived.Test.YtbdhceolchhnjaaDoorAk
namespace Go.Proofs.YtbdhceolchhnjaaDoor
open Go Go.RowKit
/-- Careful's error. -/
def caE (x : Int) (R : List Int) (s : ByteArray) : Nat := if pE x R s = 0 then (if frL x.toNat (psB s 119 x.toNat) (psB s 100 x.toNat) = [] then 9 else 0) else pE x R s
/-- Careful's spot. -/
def caI (x : Int) (R : List Int) (s : ByteArray) : Nat := if caE x R s = 0 then mnL (dgT x.toNat R (psB s 119 x.toNat) (psB s 100 x.toNat)) (frL x.toNat (psB s 119 x.toNat) (psB s 100 x.toNat)) else 0
end Go.Proofs.YtbdhceolchhnjaaDoor
