/- Layer 2: what the rows have in common: how arguments that came in are read. -/
import Derived.Test.YtkbdclladfjmcaaProg
import Derived.Test.YtkbdclladfjmcaaChecked
import Derived.Test.YtkbdclladfjmcaaRows
import Derived.Test.YtkbdclladfjmcaaBe
import Derived.WalkKit
import Derived.ProofKit
import Derived.OpenShut
import Derived.ChangeOld
import Derived.Below
import Derived.Carry
import Derived.Deep.SlicePairs
namespace Go.Proofs.Ytkbdclladfjmcaa
open Go Go.ChangeShapes Go.WideShapes Go.ChangeAt Go.RowKit

theorem own : ownKnob Try.prog.godebug = none := by kernel_rfl
theorem laidOut : laidOutB Try.prog = true := by kernel_rfl
/-- A slice of pairs that came in. -/
theorem prs_open0 {H : Type} {enc : TypeId × Value → H} {W : World} {a : Option Addr} {len cap fuel : Nat} {x : DataW H × List MemPlace}
    (hf : DataW.trod enc Try.prog W 0 (fun _ => true) true fuel 27 [.slice a len cap] = some x) : ∃ L, Prs W a L ∧ L.length = len ∧ len ≤ cap ∧ (a = none → cap = 0) := by
  rcases Go.Deep.open_slice_pairs Try.underlying27 Try.underlying29 (by kernel_rfl) rfl rfl (by kernel_rfl) (by kernel_rfl) hf with ⟨hc, _⟩ | ⟨y, l, c, m, k, V0, V1, D0, D1, P0, P1, hc, _, hl, hm, hmm, hx, hall⟩
  · simp only [List.cons.injEq, Value.slice.injEq, and_true] at hc
    obtain ⟨rfl, rfl, rfl⟩ := hc
    exact ⟨[], .inl rfl, rfl, Nat.le_refl _, fun _ => rfl⟩
  · simp only [List.cons.injEq, Value.slice.injEq, and_true] at hc
    obtain ⟨rfl, rfl, rfl⟩ := hc
    simp only [if_true] at hmm
    subst hmm
    refine ⟨(List.range len).map fun i => (intOf (V0 i), intOf (V1 i)), ?_, by simp, hl, fun h => by cases h⟩
    by_cases h0 : len = 0
    · exact .inl (by simp [h0])
    · obtain ⟨b, off, spot⟩ := y
      have hspot : spot = none := by simpa [Addr.add] using World.cell?_spot (hall 0 (by omega)).1
      subst hspot
      refine .inr ⟨b, off, rfl, fun i hi => ?_⟩
      have hi' : i < len := by simpa using hi
      obtain ⟨h1, h2, h3, h4⟩ := hall i (by omega)
      obtain ⟨N0, e0, _, _⟩ := DataW.trod_int Try.underlying3 h3
      obtain ⟨N1, e1, _, _⟩ := DataW.trod_int Try.underlying3 h4
      simp only [List.cons.injEq, and_true] at e0 e1
      have ha : ∀ j, Addr.add ⟨b, off, none⟩ j = ⟨b, off + j, none⟩ := fun j => by simp [Addr.add]
      rw [ha, e0] at h1
      rw [ha, e1] at h2
      have hp : pth ((List.range len).map fun i => (intOf (V0 i), intOf (V1 i))) i = (intOf (V0 i), intOf (V1 i)) := by simp [pth, hi']
      rw [hp]
      dsimp only
      rw [e0, e1]
      exact ⟨h1, by rw [Nat.add_assoc]; exact h2⟩
/-- A slice of numbers that came in. -/
theorem ints_open0 {H : Type} {enc : TypeId × Value → H} {W : World} {a : Option Addr} {len cap fuel : Nat} {x : DataW H × List MemPlace}
    (hf : DataW.trod enc Try.prog W 0 (fun _ => true) true fuel 35 [.slice a len cap] = some x) : ∃ L, Ints W a L ∧ L.length = len ∧ len ≤ cap ∧ (a = none → cap = 0) := by
  rcases Go.ChangeShapes.open_ints Try.underlying35 Try.underlying3 (by kernel_rfl) hf with ⟨hc, _⟩ | ⟨y, l, c, zs, hc, _, hl, hm, hz, hx, hall, hwf⟩
  · simp only [List.cons.injEq, Value.slice.injEq, and_true] at hc
    obtain ⟨rfl, rfl, rfl⟩ := hc
    exact ⟨[], .inl rfl, rfl, Nat.le_refl _, fun _ => rfl⟩
  · simp only [List.cons.injEq, Value.slice.injEq, and_true] at hc
    obtain ⟨rfl, rfl, rfl⟩ := hc
    simp only [if_true] at hz
    have hlen : (zs.take len).length = len := by rw [List.length_take]; omega
    refine ⟨zs.take len, ?_, hlen, hl, fun h => by cases h⟩
    by_cases h0 : len = 0
    · exact .inl (by rw [hlen, h0])
    · obtain ⟨b, off, spot⟩ := y
      have hspot : spot = none := by simpa [Addr.add] using World.cell?_spot (hall 0 (by omega))
      subst hspot
      refine .inr ⟨b, off, rfl, fun i hi => ?_⟩
      rw [hlen] at hi
      have h1 := hall i (by omega)
      rw [show Addr.add ⟨b, off, none⟩ i = ⟨b, off + i, none⟩ by simp [Addr.add]] at h1
      have hp : nth (zs.take len) i = zs.getD i 0 := by
        unfold nth
        rw [List.getD_eq_getElem?_getD, List.getElem?_take, if_pos hi, List.getD_eq_getElem?_getD]
      rw [hp]
      exact h1
/-- A number's range. -/
theorem wf_bds {k : IntKind} {n : Int} (h : (Lit.int k n).wf = true) : k.min ≤ n ∧ n ≤ k.max := by
  simpa [Lit.wf] using h
end Go.Proofs.Ytkbdclladfjmcaa
