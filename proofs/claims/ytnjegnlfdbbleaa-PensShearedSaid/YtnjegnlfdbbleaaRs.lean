/- drovewaylaw01.PensSheared returns true and changes no argument: for every input, without further conditions. -/
import Derived.Test.YtnjegnlfdbbleaaRe
import Derived.Test.YtnjegnlfdbbleaaSx
namespace Go.Proofs.Ytnjegnlfdbbleaa
open Go Go.ChangeShapes Go.WideShapes Go.ChangeAt Go.RowKit

/-- Four numbers that came in as an array. -/
theorem four_open {H : Type} {enc : TypeId × Value → H} {W : World} {r : Reach} {base : Nat} {v : Value} {d : DataW H} {ps : List MemPlace}
    (hval : Value.okWide Try.prog W r base 39 v) (hd : DataW.Trod enc Try.prog W 0 (fun _ => true) true 39 v d ps) :
    ∃ s0 s1 s2 s3, v = .agg #[.int .i64 s0, .int .i64 s1, .int .i64 s2, .int .i64 s3] := by
  obtain ⟨cs, rfl, hsz, _⟩ : ∃ cs, v = .agg cs ∧ cs.size = Try.prog.cellsOf 39 ∧ True := by
    unfold Value.okWide at hval
    rw [Try.underlying39] at hval
    obtain ⟨cs, h1, h2, _⟩ := hval
    exact ⟨cs, h1, h2, trivial⟩
  have h4 : Try.prog.cellsOf 39 = 4 := by kernel_rfl
  have h1 : Hid (Try.prog.cellsOf 3 = 1) := Lib.hid (by kernel_rfl)
  rw [h4] at hsz
  clear h4 hval
  obtain ⟨fuel, hf⟩ := hd
  obtain ⟨xs, m, _, _, _, hl, hall⟩ := DataW.trod_array Try.underlying39 hf
  obtain ⟨l, rfl⟩ : ∃ l, cs = ⟨l⟩ := ⟨cs.toList, rfl⟩
  obtain ⟨c0, c1, c2, c3, rfl⟩ : ∃ c0 c1 c2 c3, l = [c0, c1, c2, c3] := by
    simp only [List.size_toArray] at hsz
    clear hf hall hl h1
    rcases l with _ | ⟨c0, _ | ⟨c1, _ | ⟨c2, _ | ⟨c3, _ | ⟨c4, l⟩⟩⟩⟩⟩
    · simp at hsz
    · simp at hsz
    · simp at hsz
    · simp at hsz
    · exact ⟨c0, c1, c2, c3, rfl⟩
    · simp at hsz
  have key : ∀ i c, i < 4 → ([c0, c1, c2, c3].drop i).take 1 = [c] → ∃ s, c = .int .i64 s := by
    intro i c hi hc
    have h := hall i hi
    rw [h1.out, Nat.mul_one] at h
    have hx : ∃ x, xs[i]? = some x := ⟨xs[i]'(Nat.lt_of_lt_of_eq hi hl.symm), List.getElem?_eq_getElem _⟩
    obtain ⟨x, hx⟩ := hx
    rw [hx] at h
    obtain ⟨n, e, _⟩ := DataW.trod_int Try.underlying3 h
    have e' : ([c0, c1, c2, c3].drop i).take 1 = [.int .i64 n] := e
    rw [hc] at e'
    exact ⟨n, by simpa using e'⟩
  obtain ⟨s0, rfl⟩ := key 0 c0 (by omega) rfl
  obtain ⟨s1, rfl⟩ := key 1 c1 (by omega) rfl
  obtain ⟨s2, rfl⟩ := key 2 c2 (by omega) rfl
  obtain ⟨s3, rfl⟩ := key 3 c3 (by omega) rfl
  exact ⟨s0, s1, s2, s3, rfl⟩

set_option maxRecDepth 100000 in
theorem shd_lifted (os : Os) (started : os.Started) (H : Type) (enc : TypeId × Value → H) :
    ReturnsInHanded {} Try.checked os 11 .any (Rows.pensShearedSpec.pre6 enc Try.prog Try.f11 Rows.pensShearedRow.domain false) (Rows.pensShearedSpec.post enc Try.prog Try.f11 false true false false) := by
  refine returnsInHanded_of_change (C := Try.checked) own started (by kernel_rfl) Try.func11
    (ChangeSpec.witness6 (enc := enc) (C := Try.checked) false ⟨#[], #[.slice none 0 0, .agg #[.int .i64 0, .int .i64 0, .int .i64 0, .int .i64 0], .int .u8 0], []⟩ 8 (by kernel_rfl) (by kernel_rfl) (by kernel_rfl) (by kernel_rfl)) ?_
  intro W base args ds gs before hval0 hW hcnd _
  have hval : ∀ (j : Nat) t v, Try.f11.params[j]? = some t → args[j]? = some v → Value.okWide Try.prog W .any base t v := hval0
  have hW' := hW
  obtain ⟨p, q, hA0, hV, rfl, hfz, hnd⟩ := hW
  have hA : DataW.TrodAll enc Try.prog W 0 (fun _ => true) true Try.f11.params.toList args.toList ds p := hA0
  rw [Try.params11] at hA hval
  obtain ⟨v0, vs0, d0, ds0, p0, q0, hargs, rfl, rfl, h0, r0⟩ := trodAll_cons hA
  obtain ⟨v1, vs1, d1, ds1, p1, q1, rfl, rfl, rfl, h1, r1⟩ := trodAll_cons r0
  obtain ⟨v2, vs2, d2, ds2, p2, q2, rfl, rfl, rfl, h2, r2⟩ := trodAll_cons r1
  obtain ⟨rfl, rfl, rfl⟩ := trodAll_nil r2
  obtain rfl : args = #[v0, v1, v2] := by cases args; simp_all
  obtain ⟨rfl, rfl⟩ := trodVars_none hV
  obtain ⟨a0, len0, cap0, rfl⟩ := okWide_slice Try.underlying22 (hval 0 22 v0 rfl rfl)
  have k0 := h0
  have lt0 : ∀ x ∈ p0, x.block < W.heap.size := by obtain ⟨m, hm⟩ := k0; exact DataW.trod_lt m _ _ _ hm
  obtain ⟨z0, w0⟩ : ∃ p, Pts W a0 len0 p := by
    obtain ⟨fuel, hf⟩ := h0
    exact pts_open hf
  obtain ⟨s0, s1, s2, s3, rfl⟩ := four_open (hval 1 39 v1 rfl rfl) h1
  have k1 := h1
  have lt1 : ∀ x ∈ p1, x.block < W.heap.size := by obtain ⟨m, hm⟩ := k1; exact DataW.trod_lt m _ _ _ hm
  obtain ⟨a2, rfl, rfl, rfl, w2⟩ := open_int Try.underlying5 (hval 2 5 v2 rfl rfl) h2
  obtain ⟨f, rfl⟩ : ∃ f : Nat, a2 = (f : Int) := ⟨a2.toNat, (Int.toNat_of_nonneg (show (0 : Int) ≤ a2 from (wf_bds w2).1)).symm⟩
  have hf : f ≤ 255 := by have : (f : Int) ≤ 255 := (wf_bds w2).2; omega
  clear hA0 hval0
  refine (shd_any a0 len0 cap0 z0 s0 s1 s2 s3 f W w0 hf).mono fun e W' ⟨he, bel⟩ => ?_
  subst he
  exact ⟨_, rfl, _, _, _, [], _, [], hW', trodAll_mk1 (shut_bool Try.underlying4 _), (trodAll_cons_mk (Below.trod laidOut (by kernel_rfl) (of_decide_eq_true (by kernel_rfl)) k0 bel lt0) (trodAll_cons_mk (Below.trod laidOut (by kernel_rfl) (of_decide_eq_true (by kernel_rfl)) k1 bel lt1) (trodAll_cons_mk (shut_int Try.underlying5 w2) trodAll_mk0))), rfl, bel.frame _, fun h => by cases h⟩

theorem shd_over : Rows.pensShearedRow.holds Try.pinned (OpenSpec.ofChange Rows.pensShearedSpec) :=
  OpenClaim.holds_of_wide 11 Try.f11 rfl rfl rfl rfl rfl rfl rfl ⟨rfl, rfl, rfl, rfl, rfl⟩ rfl rfl rfl rfl rfl (by kernel_rfl) Try.func11 (by kernel_rfl)
    (of_decide_eq_true (by kernel_rfl)) (by unfold Func.isWrapper; first | (rw [if_pos (by decide +kernel)]; kernel_rfl) | (rw [if_neg (by decide +kernel)]; exact ⟨rfl, rfl⟩))
    (fun os started H enc _ => shd_lifted os started H enc)

theorem pensSheared_holds : Rows.PensShearedSaid := shd_over
#print axioms pensSheared_holds
end Go.Proofs.Ytnjegnlfdbbleaa
