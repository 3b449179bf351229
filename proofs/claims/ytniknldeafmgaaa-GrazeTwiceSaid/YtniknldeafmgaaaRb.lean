/- drovewaylaw08.GrazeTwice returns true and changes no argument: for every input, without further conditions. -/
import Derived.Test.YtniknldeafmgaaaPb
import Derived.Test.YtniknldeafmgaaaRz
namespace Go.Proofs.Ytniknldeafmgaaa
open Go Go.ChangeShapes Go.WideShapes Go.ChangeAt Go.RowKit

set_option maxRecDepth 100000 in
theorem grazeTwice_lifted (os : Os) (started : os.Started) (H : Type) (enc : TypeId × Value → H) :
    ReturnsInHanded {} Try.checked os 14 .any (Rows.grazeTwiceSpec.pre6 enc Try.prog Try.f14 Rows.grazeTwiceRow.domain false) (Rows.grazeTwiceSpec.post enc Try.prog Try.f14 false true false false) := by
  refine returnsInHanded_of_change (C := Try.checked) own started (by kernel_rfl) Try.func14
    (ChangeSpec.witness6 (enc := enc) (C := Try.checked) false ⟨#[], #[.int .i64 0, .int .i64 0, .slice none 0 0, .int .u16 0, .int .u16 0], []⟩ 8 (by kernel_rfl) (by kernel_rfl) (by kernel_rfl) (by kernel_rfl)) ?_
  intro W base args ds gs before hval0 hW hcnd _
  have hval : ∀ (j : Nat) t v, Try.f14.params[j]? = some t → args[j]? = some v → Value.okWide Try.prog W .any base t v := hval0
  have hW' := hW
  obtain ⟨p, q, hA0, hV, rfl, hfz, hnd⟩ := hW
  have hA : DataW.TrodAll enc Try.prog W 0 (fun _ => true) true Try.f14.params.toList args.toList ds p := hA0
  rw [Try.params14] at hA hval
  obtain ⟨v0, vs0, d0, ds0, p0, q0, hargs, rfl, rfl, h0, r0⟩ := trodAll_cons hA
  obtain ⟨v1, vs1, d1, ds1, p1, q1, rfl, rfl, rfl, h1, r1⟩ := trodAll_cons r0
  obtain ⟨v2, vs2, d2, ds2, p2, q2, rfl, rfl, rfl, h2, r2⟩ := trodAll_cons r1
  obtain ⟨v3, vs3, d3, ds3, p3, q3, rfl, rfl, rfl, h3, r3⟩ := trodAll_cons r2
  obtain ⟨v4, vs4, d4, ds4, p4, q4, rfl, rfl, rfl, h4, r4⟩ := trodAll_cons r3
  obtain ⟨rfl, rfl, rfl⟩ := trodAll_nil r4
  obtain rfl : args = #[v0, v1, v2, v3, v4] := by cases args; simp_all
  obtain ⟨rfl, rfl⟩ := trodVars_none hV
  obtain ⟨a0, rfl, rfl, rfl, w0⟩ := open_int Try.underlying3 (hval 0 3 v0 rfl rfl) h0
  obtain ⟨a1, rfl, rfl, rfl, w1⟩ := open_int Try.underlying3 (hval 1 3 v1 rfl rfl) h1
  obtain ⟨a2, len2, cap2, rfl⟩ := okWide_slice Try.underlying22 (hval 2 22 v2 rfl rfl)
  have k2 := h2
  have lt2 : ∀ x ∈ p2, x.block < W.heap.size := by obtain ⟨m, hm⟩ := k2; exact DataW.trod_lt m _ _ _ hm
  obtain ⟨z2, w2, wl2, wc2, wn2⟩ : ∃ L, Ints W a2 L ∧ L.length = len2 ∧ len2 ≤ cap2 ∧ (a2 = none → cap2 = 0) := by
    obtain ⟨fuel, hf⟩ := h2
    exact ints_open0 hf
  obtain ⟨a3, rfl, rfl, rfl, w3⟩ := open_int Try.underlying59 (hval 3 59 v3 rfl rfl) h3
  obtain ⟨f3, rfl⟩ : ∃ f : Nat, a3 = (f : Int) := ⟨a3.toNat, (Int.toNat_of_nonneg (show (0 : Int) ≤ a3 from (wf_bds w3).1)).symm⟩
  have hf3 : f3 ≤ 65535 := by have : (f3 : Int) ≤ 65535 := (wf_bds w3).2; omega
  obtain ⟨a4, rfl, rfl, rfl, w4⟩ := open_int Try.underlying59 (hval 4 59 v4 rfl rfl) h4
  obtain ⟨f4, rfl⟩ : ∃ f : Nat, a4 = (f : Int) := ⟨a4.toNat, (Int.toNat_of_nonneg (show (0 : Int) ≤ a4 from (wf_bds w4).1)).symm⟩
  have hf4 : f4 ≤ 65535 := by have : (f4 : Int) ≤ 65535 := (wf_bds w4).2; omega
  clear hA0 hval0
  refine (twice_law a0 a1 a2 len2 cap2 z2 f3 f4 W w2 wl2 wc2 wn2 hf3 hf4).mono fun e W' ⟨he, bel⟩ => ?_
  subst he
  exact ⟨_, rfl, _, _, _, [], _, [], hW', trodAll_mk1 (shut_bool Try.underlying4 _), (trodAll_cons_mk (shut_int Try.underlying3 w0) (trodAll_cons_mk (shut_int Try.underlying3 w1) (trodAll_cons_mk (Below.trod laidOut (by kernel_rfl) (of_decide_eq_true (by kernel_rfl)) k2 bel lt2) (trodAll_cons_mk (shut_int Try.underlying59 w3) (trodAll_cons_mk (shut_int Try.underlying59 w4) trodAll_mk0))))), rfl, bel.frame _, fun h => by cases h⟩

theorem grazeTwice_over : Rows.grazeTwiceRow.holds Try.pinned (OpenSpec.ofChange Rows.grazeTwiceSpec) :=
  OpenClaim.holds_of_wide 14 Try.f14 rfl rfl rfl rfl rfl rfl rfl ⟨rfl, rfl, rfl, rfl, rfl⟩ rfl rfl rfl rfl rfl (by kernel_rfl) Try.func14 (by kernel_rfl)
    (of_decide_eq_true (by kernel_rfl)) (by unfold Func.isWrapper; first | (rw [if_pos (by decide +kernel)]; kernel_rfl) | (rw [if_neg (by decide +kernel)]; exact ⟨rfl, rfl⟩))
    (fun os started H enc _ => grazeTwice_lifted os started H enc)

theorem grazeTwice_holds : Rows.GrazeTwiceSaid := grazeTwice_over
#print axioms grazeTwice_holds
end Go.Proofs.Ytniknldeafmgaaa
