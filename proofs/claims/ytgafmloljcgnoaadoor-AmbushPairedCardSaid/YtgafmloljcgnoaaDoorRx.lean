/- What the rows have in common: pairs that came in. -/
import Derived.Test.YtgafmloljcgnoaaDoorRy
import Derived.Test.YtgafmloljcgnoaaDoorAu
import Derived.Deep.SlicePairs
namespace Go.Proofs.YtgafmloljcgnoaaDoor
open Go Go.ChangeShapes Go.WideShapes Go.ChangeAt Go.RowKit

theorem prs_open0 {H : Type} {enc : TypeId × Value → H} {W : World} {a : Option Addr} {len cap fuel : Nat} {x : DataW H × List MemPlace}
    (hf : DataW.trod enc Tryd.prog W 0 (fun _ => true) true fuel 34 [.slice a len cap] = some x) : ∃ L, Prs W a L ∧ L.length = len ∧ len ≤ cap ∧ (a = none → cap = 0) := by
  rcases Go.Deep.open_slice_pairs Tryd.underlying34 Tryd.underlying63 (by kernel_rfl) rfl rfl (by kernel_rfl) (by kernel_rfl) hf with ⟨hc, _⟩ | ⟨y, l, c, m, k, V0, V1, D0, D1, P0, P1, hc, _, hl, hm, hmm, hx, hall⟩
  · simp only [List.cons.injEq, Value.slice.injEq, and_true] at hc
    obtain ⟨rfl, rfl, rfl⟩ := hc
    exact ⟨[], .inl rfl, rfl, Nat.le_refl _, fun _ => rfl⟩
  · simp only [List.cons.injEq, Value.slice.injEq, and_true] at hc
    obtain ⟨rfl, rfl, rfl⟩ := hc
    simp only [if_true] at hmm
    subst hmm
    refine ⟨(List.range len).map fun i => (intOf (V0 i), intOf (V1 i)), ?_, by simp, hl, fun h => by cases h⟩
    by_cases h0 : len = 0
    · exact .inl (by simp [h0])
    · obtain ⟨b, off, spot⟩ := y
      have hspot : spot = none := by simpa [Addr.add] using World.cell?_spot (hall 0 (by omega)).1
      subst hspot
      refine .inr ⟨b, off, rfl, fun i hi => ?_⟩
      have hi' : i < len := by simpa using hi
      obtain ⟨h1, h2, h3, h4⟩ := hall i (by omega)
      obtain ⟨N0, e0, _, _⟩ := DataW.trod_int Tryd.underlying3 h3
      obtain ⟨N1, e1, _, _⟩ := DataW.trod_int Tryd.underlying3 h4
      simp only [List.cons.injEq, and_true] at e0 e1
      have ha : ∀ j, Addr.add ⟨b, off, none⟩ j = ⟨b, off + j, none⟩ := fun j => by simp [Addr.add]
      rw [ha, e0] at h1
      rw [ha, e1] at h2
      have hp : pth ((List.range len).map fun i => (intOf (V0 i), intOf (V1 i))) i = (intOf (V0 i), intOf (V1 i)) := by simp [pth, hi']
      rw [hp]
      dsimp only
      rw [e0, e1]
      exact ⟨h1, by rw [Nat.add_assoc]; exact h2⟩
end Go.Proofs.YtgafmloljcgnoaaDoor
