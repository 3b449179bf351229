/- What the rows have in common: small numbers that came in. -/
import Derived.Test.YtniknldeafmgaaaRz
import Derived.Test.YtniknldeafmgaaaPl
namespace Go.Proofs.Ytniknldeafmgaaa
open Go Go.ChangeShapes Go.WideShapes Go.ChangeAt Go.RowKit

theorem bys_open0 {H : Type} {enc : TypeId × Value → H} {W : World} {a : Option Addr} {len cap fuel : Nat} {x : DataW H × List MemPlace}
    (hf : DataW.trod enc Try.prog W 0 (fun _ => true) true fuel 50 [.slice a len cap] = some x) : Bys W a len := by
  rcases Go.ChangeShapes.open_ints Try.underlying50 Try.underlying5 (by kernel_rfl) hf with ⟨hc, _⟩ | ⟨y, l, c, zs, hc, _, hl, hm, hz, hx, hall, hwf⟩
  · simp only [List.cons.injEq, Value.slice.injEq, and_true] at hc
    obtain ⟨rfl, rfl, rfl⟩ := hc
    exact .inl rfl
  · simp only [List.cons.injEq, Value.slice.injEq, and_true] at hc
    obtain ⟨rfl, rfl, rfl⟩ := hc
    simp only [if_true] at hz
    by_cases h0 : len = 0
    · exact .inl h0
    · obtain ⟨b, off, spot⟩ := y
      have hspot : spot = none := by simpa [Addr.add] using World.cell?_spot (hall 0 (by omega))
      subst hspot
      refine .inr ⟨b, off, rfl, fun i hi => ?_⟩
      have h1 := hall i (by omega)
      rw [show Addr.add ⟨b, off, none⟩ i = ⟨b, off + i, none⟩ by simp [Addr.add]] at h1
      have hil : i < zs.length := by omega
      have h2 := hwf (zs.getD i 0) (by rw [List.getD_eq_getElem?_getD, List.getElem?_eq_getElem hil]; exact List.getElem_mem hil)
      have h3 := wf_bds h2
      have h4 : (0 : Int) ≤ zs.getD i 0 := h3.1
      have h5 : zs.getD i 0 ≤ 255 := h3.2
      exact ⟨(zs.getD i 0).toNat, by omega, by rw [h1, Int.toNat_of_nonneg h4]⟩
end Go.Proofs.Ytniknldeafmgaaa
