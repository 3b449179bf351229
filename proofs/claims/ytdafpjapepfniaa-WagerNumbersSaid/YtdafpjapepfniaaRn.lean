/- drovewaylaw07.WagerNumbers returns true and changes no argument: for every input, without further conditions. -/
import Derived.Test.YtdafpjapepfniaaLn
import Derived.Test.YtdafpjapepfniaaRz
namespace Go.Proofs.Ytdafpjapepfniaa
open Go Go.ChangeShapes Go.WideShapes Go.ChangeAt Go.RowKit

set_option maxRecDepth 100000 in
theorem wagerNumbers_lifted (os : Os) (started : os.Started) (H : Type) (enc : TypeId × Value → H) :
    ReturnsInHanded {} Try.checked os 15 .any (Rows.wagerNumbersSpec.pre6 enc Try.prog Try.f15 Rows.wagerNumbersRow.domain false) (Rows.wagerNumbersSpec.post enc Try.prog Try.f15 false true false false) := by
  refine returnsInHanded_of_change (C := Try.checked) own started (by kernel_rfl) Try.func15
    (ChangeSpec.witness6 (enc := enc) (C := Try.checked) false ⟨#[], #[.int .u8 0, .int .u64 0], []⟩ 8 (by kernel_rfl) (by kernel_rfl) (by kernel_rfl) (by kernel_rfl)) ?_
  intro W base args ds gs before hval0 hW hcnd _
  have hval : ∀ (j : Nat) t v, Try.f15.params[j]? = some t → args[j]? = some v → Value.okWide Try.prog W .any base t v := hval0
  have hW' := hW
  obtain ⟨p, q, hA0, hV, rfl, hfz, hnd⟩ := hW
  have hA : DataW.TrodAll enc Try.prog W 0 (fun _ => true) true Try.f15.params.toList args.toList ds p := hA0
  rw [Try.params15] at hA hval
  obtain ⟨v0, vs0, d0, ds0, p0, q0, hargs, rfl, rfl, h0, r0⟩ := trodAll_cons hA
  obtain ⟨v1, vs1, d1, ds1, p1, q1, rfl, rfl, rfl, h1, r1⟩ := trodAll_cons r0
  obtain ⟨rfl, rfl, rfl⟩ := trodAll_nil r1
  obtain rfl : args = #[v0, v1] := by cases args; simp_all
  obtain ⟨rfl, rfl⟩ := trodVars_none hV
  obtain ⟨a0, rfl, rfl, rfl, w0⟩ := open_int Try.underlying5 (hval 0 5 v0 rfl rfl) h0
  obtain ⟨f0, rfl⟩ : ∃ f : Nat, a0 = (f : Int) := ⟨a0.toNat, (Int.toNat_of_nonneg (show (0 : Int) ≤ a0 from (wf_bds w0).1)).symm⟩
  have hf0 : f0 ≤ 255 := by have : (f0 : Int) ≤ 255 := (wf_bds w0).2; omega
  obtain ⟨a1, rfl, rfl, rfl, w1⟩ := open_int Try.underlying44 (hval 1 44 v1 rfl rfl) h1
  obtain ⟨f1, rfl⟩ : ∃ f : Nat, a1 = (f : Int) := ⟨a1.toNat, (Int.toNat_of_nonneg (show (0 : Int) ≤ a1 from (wf_bds w1).1)).symm⟩
  have hf1 : f1 ≤ 18446744073709551615 := by have : (f1 : Int) ≤ 18446744073709551615 := (wf_bds w1).2; omega
  clear hA0 hval0
  refine (numbers_law f0 f1 W hf0 hf1).mono fun e W' ⟨he, bel⟩ => ?_
  subst he
  exact ⟨_, rfl, _, _, _, [], _, [], hW', trodAll_mk1 (shut_bool Try.underlying4 _), (trodAll_cons_mk (shut_int Try.underlying5 w0) (trodAll_cons_mk (shut_int Try.underlying44 w1) trodAll_mk0)), rfl, bel.frame _, fun h => by cases h⟩

theorem wagerNumbers_over : Rows.wagerNumbersRow.holds Try.pinned (OpenSpec.ofChange Rows.wagerNumbersSpec) :=
  OpenClaim.holds_of_wide 15 Try.f15 rfl rfl rfl rfl rfl rfl rfl ⟨rfl, rfl, rfl, rfl, rfl⟩ rfl rfl rfl rfl rfl (by kernel_rfl) Try.func15 (by kernel_rfl)
    (of_decide_eq_true (by kernel_rfl)) (by unfold Func.isWrapper; first | (rw [if_pos (by decide +kernel)]; kernel_rfl) | (rw [if_neg (by decide +kernel)]; exact ⟨rfl, rfl⟩))
    (fun os started H enc _ => wagerNumbers_lifted os started H enc)

theorem wagerNumbers_holds : Rows.WagerNumbersSaid := wagerNumbers_over
#print axioms wagerNumbers_holds
end Go.Proofs.Ytdafpjapepfniaa
