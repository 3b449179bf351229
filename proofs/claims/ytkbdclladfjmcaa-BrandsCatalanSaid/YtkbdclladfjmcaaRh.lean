/- drovewaylaw02.BrandsCatalan returns true and changes no argument: for every input, without further conditions. -/
import Derived.Test.YtkbdclladfjmcaaHd
import Derived.Test.YtkbdclladfjmcaaRz
namespace Go.Proofs.Ytkbdclladfjmcaa
open Go Go.ChangeShapes Go.WideShapes Go.ChangeAt Go.RowKit

set_option maxRecDepth 100000 in
theorem brandsCatalan_lifted (os : Os) (started : os.Started) (H : Type) (enc : TypeId × Value → H) :
    ReturnsInHanded {} Try.checked os 3 .any (Rows.brandsCatalanSpec.pre6 enc Try.prog Try.f3 Rows.brandsCatalanRow.domain false) (Rows.brandsCatalanSpec.post enc Try.prog Try.f3 false true false false) := by
  refine returnsInHanded_of_change (C := Try.checked) own started (by kernel_rfl) Try.func3
    (ChangeSpec.witness6 (enc := enc) (C := Try.checked) false ⟨#[], #[.int .u8 0], []⟩ 8 (by kernel_rfl) (by kernel_rfl) (by kernel_rfl) (by kernel_rfl)) ?_
  intro W base args ds gs before hval0 hW hcnd _
  have hval : ∀ (j : Nat) t v, Try.f3.params[j]? = some t → args[j]? = some v → Value.okWide Try.prog W .any base t v := hval0
  have hW' := hW
  obtain ⟨p, q, hA0, hV, rfl, hfz, hnd⟩ := hW
  have hA : DataW.TrodAll enc Try.prog W 0 (fun _ => true) true Try.f3.params.toList args.toList ds p := hA0
  rw [Try.params3] at hA hval
  obtain ⟨v0, vs0, d0, ds0, p0, q0, hargs, rfl, rfl, h0, r0⟩ := trodAll_cons hA
  obtain ⟨rfl, rfl, rfl⟩ := trodAll_nil r0
  obtain rfl : args = #[v0] := by cases args; simp_all
  obtain ⟨rfl, rfl⟩ := trodVars_none hV
  obtain ⟨a0, rfl, rfl, rfl, w0⟩ := open_int Try.underlying5 (hval 0 5 v0 rfl rfl) h0
  obtain ⟨f0, rfl⟩ : ∃ f : Nat, a0 = (f : Int) := ⟨a0.toNat, (Int.toNat_of_nonneg (show (0 : Int) ≤ a0 from (wf_bds w0).1)).symm⟩
  have hf0 : f0 ≤ 255 := by have : (f0 : Int) ≤ 255 := (wf_bds w0).2; omega
  clear hA0 hval0
  refine (catalan_law f0 W hf0).mono fun e W' ⟨he, bel⟩ => ?_
  subst he
  exact ⟨_, rfl, _, _, _, [], _, [], hW', trodAll_mk1 (shut_bool Try.underlying4 _), (trodAll_cons_mk (shut_int Try.underlying5 w0) trodAll_mk0), rfl, bel.frame _, fun h => by cases h⟩

theorem brandsCatalan_over : Rows.brandsCatalanRow.holds Try.pinned (OpenSpec.ofChange Rows.brandsCatalanSpec) :=
  OpenClaim.holds_of_wide 3 Try.f3 rfl rfl rfl rfl rfl rfl rfl ⟨rfl, rfl, rfl, rfl, rfl⟩ rfl rfl rfl rfl rfl (by kernel_rfl) Try.func3 (by kernel_rfl)
    (of_decide_eq_true (by kernel_rfl)) (by unfold Func.isWrapper; first | (rw [if_pos (by decide +kernel)]; kernel_rfl) | (rw [if_neg (by decide +kernel)]; exact ⟨rfl, rfl⟩))
    (fun os started H enc _ => brandsCatalan_lifted os started H enc)

theorem brandsCatalan_holds : Rows.BrandsCatalanSaid := brandsCatalan_over
#print axioms brandsCatalan_holds
end Go.Proofs.Ytkbdclladfjmcaa
