/- Layer 8: a cell of an own row is written to. -/
import Derived.Test.YtniknldeafmgaaaOc
import Derived.Test.YtniknldeafmgaaaQk
namespace Go.Proofs.Ytniknldeafmgaaa
set_option linter.unusedSimpArgs false
set_option linter.unusedVariables false
open Go Go.RowKit

theorem own_setX {w : World} {base n size g cap j : Nat} {e : TypeId} {xs : List Value} (h : w.ownsRow base e size (.slice (some ⟨g, 0, none⟩) n cap) n xs) (u : Value) :
    (w.setCell ⟨g, j, none⟩ u).ownsRow base e size (.slice (some ⟨g, 0, none⟩) n cap) n (xs.set j u) := by
  refine ⟨by rw [List.length_set]; exact h.1, ?_⟩
  rcases h.2 with ⟨h1, _⟩ | ⟨g', cap', cur, h1, hg, hh, hcap, hcm, hcs, ht⟩
  · cases h1
  · cases h1
    have hk : Blk w g e cur := hh
    have hk2 := hk.setA (i := j) u
    refine .inr ⟨g, cap, cur.setIfInBounds j u, rfl, hg, hk2, hcap, hcm, by rw [Array.size_setIfInBounds]; exact hcs, ?_⟩
    rw [Array.toList_setIfInBounds, List.take_set, ht]
end Go.Proofs.Ytniknldeafmgaaa
