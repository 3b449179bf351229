/- Layer 2: the mathematics of brands (M9 M10). Layer 2: the mathematics of brands (M11). Layer 2: the mathematics of brands (M12 M13). -/
import Derived.Test.YtkbdclladfjmcaaMc
namespace Go.Proofs.Ytkbdclladfjmcaa
section
open Go Go.RowKit

theorem good_three : Good [1, 1, 1] := by
  refine ⟨fun s => ?_, by decide⟩
  unfold rn stp mulV
  simp only [List.foldl_cons, List.foldl_nil]
  exact Prod.ext (by simp only []; omega) (by simp only []; omega)
/-- What is cut off at a 1 can be put back. -/
theorem good_uncut {R : List Int} {c : Nat} (h : Good (cutL R c)) (h3 : 3 ≤ R.length) (hc : c < R.length) (he : nth R c = 1) : Good R := by
  obtain ⟨a, x, b, w, u, v, u', v', e1, e2, e3, e4, ea, ex, eb⟩ := cut_form h3 hc
  rw [he] at ex
  subst ex
  have hE : Eps (-1) ((a - 1) :: (b - 1) :: w) := by rw [← e4]; have := h.1; rw [e3] at this; exact this.rot
  have hE' := eps_ear.2 hE
  have hl : left3 ((a - 1) :: (b - 1) :: w) = 6 := by rw [← e4]; have := h.2; rw [e3, left3_append] at this; rw [left3_append]; omega
  refine ⟨by rw [e1]; rw [← e2] at hE'; exact hE'.rot, ?_⟩
  rw [e1, left3_append]
  have : left3 (v ++ u) = 6 := by rw [e2]; simp only [left3] at hl ⊢; omega
  rw [left3_append] at this
  omega
theorem good_round : ∀ (m : Nat) {L : List (Int × Int)}, Full ((m + 3 : Nat) : Int) L → Good (roundL (m + 3) L) := by
  intro m
  induction m with
  | zero =>
    intro L h
    rw [full_three h]
    have : roundL (0 + 3) [] = [1, 1, 1] := by decide
    rw [this]
    exact good_three
  | succ m ih =>
    intro L h
    rw [show m + 1 + 3 = m + 4 by omega] at h ⊢
    obtain ⟨x, hx0, hx1, hb⟩ := bare_in h
    have hear := (h.ear (by omega) hb (by omega) (by omega)).2
    rw [show ((m + 4 : Nat) : Int) - 1 = ((m + 3 : Nat) : Int) by omega] at hear
    have hg := ih hear
    have hc := cutL_round h hb (by omega) (by omega)
    rw [show m + 4 - 1 = m + 3 by omega] at hc
    rw [← hc] at hg
    have hl := (nth_round h).1
    refine good_uncut hg (by omega) (by omega) ?_
    rw [round_cut h hb (by omega) (by omega), if_pos rfl]
/-- The number between the corner i and the one d behind it. -/
def eD (R : List Int) (i : Nat) : Nat → Int
  | 0 => 0
  | 1 => 1
  | d + 2 => nth R ((i + d + 1) % R.length) * eD R i (d + 1) - eD R i d
def wk (R : List Int) (i d : Nat) : List Int := (List.range' i d).map fun t => nth R (t % R.length)
theorem wk_succ (R : List Int) (i d : Nat) : wk R i (d + 1) = wk R i d ++ [nth R ((i + d) % R.length)] := by
  unfold wk
  rw [List.range'_concat, List.map_append]
  simp
theorem wk_add (R : List Int) (i : Nat) : ∀ a b : Nat, wk R i (a + b) = wk R i a ++ wk R (i + a) b := by
  intro a b
  induction b with
  | zero => simp [wk]
  | succ b ih => rw [← Nat.add_assoc, wk_succ, ih, wk_succ, List.append_assoc, Nat.add_assoc]
theorem wk_period (R : List Int) (i : Nat) : ∀ d, wk R (i + R.length) d = wk R i d := by
  intro d
  induction d with
  | zero => rfl
  | succ d ih => rw [wk_succ, wk_succ, ih, show i + R.length + d = i + d + R.length by omega, Nat.add_mod_right]
theorem rn_snoc (r : List Int) (a : Int) (s : Int × Int) : rn (r ++ [a]) s = stp (rn r s) a := by rw [rn_append]; rfl
theorem rn_wk (R : List Int) (i : Nat) : ∀ d, rn (wk R i (d + 1)) (-1, 0) = (eD R i d, eD R i (d + 1)) := by
  intro d
  induction d with
  | zero => rw [wk_succ]; simp [wk, rn, stp, eD]
  | succ d ih =>
    rw [wk_succ, rn_snoc, ih]
    unfold stp
    simp only []
    rw [eD, Nat.add_assoc]
theorem wk_all (R : List Int) : wk R 0 R.length = R := by
  apply ext_nth
  · simp [wk]
  · intro i hi
    have hi' : i < R.length := by simpa [wk] using hi
    unfold wk
    simp [nth, hi', Nat.mod_eq_of_lt hi']
theorem wk_rot {R : List Int} {i : Nat} (hi : i ≤ R.length) : wk R i R.length = wk R i (R.length - i) ++ wk R 0 i := by
  conv => lhs; rw [show R.length = (R.length - i) + i by omega]
  rw [wk_add]
  congr 1
  rw [show i + (R.length - i) = 0 + R.length by omega, wk_period]
theorem eps_wk {R : List Int} {i : Nat} (hi : i ≤ R.length) {e : Int} (h : Eps e R) : Eps e (wk R i R.length) := by
  rw [wk_rot hi]
  refine Eps.rot ?_
  have := wk_add R 0 i (R.length - i)
  rw [Nat.zero_add] at this
  rw [← this, show i + (R.length - i) = R.length by omega, wk_all]
  exact h
def ClosedP (R : List Int) : Prop := ∀ i, i < R.length → eD R i (R.length - 1) = 1 ∧ eD R i R.length = 0
theorem stp_lin (x y : Int) (s t : Int × Int) (a : Int) : stp (addV (mulV x s) (mulV y t)) a = addV (mulV x (stp s a)) (mulV y (stp t a)) := by
  unfold stp addV mulV; simp only [Prod.mk.injEq]; constructor <;> grind
theorem rn_lin (x y : Int) : ∀ (r : List Int) (s t : Int × Int), rn r (addV (mulV x s) (mulV y t)) = addV (mulV x (rn r s)) (mulV y (rn r t)) := by
  intro r
  induction r with
  | nil => intro s t; rfl
  | cons a r ih => intro s t; rw [rn_cons, rn_cons, rn_cons, stp_lin, ih]
theorem eps_closed {R : List Int} (h2 : 2 ≤ R.length) (h : Eps (-1) R) : ClosedP R := by
  intro i hi
  have := eps_wk (by omega) h (-1, 0) (i := i)
  have e := rn_wk R i (R.length - 1)
  rw [show R.length - 1 + 1 = R.length by omega, this] at e
  unfold mulV at e
  simp only [Prod.mk.injEq] at e
  omega
theorem closed_eps {R : List Int} (h2 : 2 ≤ R.length) (h : ClosedP R) : Eps (-1) R := by
  obtain ⟨a, r, rfl⟩ : ∃ a r, R = a :: r := by
    cases R with
    | nil => simp at h2
    | cons a r => exact ⟨a, r, rfl⟩
  obtain ⟨m, hm⟩ : ∃ m, (a :: r).length = m + 1 := ⟨r.length, rfl⟩
  have e0 : rn (a :: r) (-1, 0) = (1, 0) := by
    have e := rn_wk (a :: r) 0 m
    rw [← hm, wk_all] at e
    have := h 0 (by omega)
    rw [hm, Nat.add_sub_cancel] at this
    rw [e, hm, this.1, this.2]
  have e1 : rn (r ++ [a]) (-1, 0) = (1, 0) := by
    have e := rn_wk (a :: r) 1 m
    rw [← hm, wk_rot (by omega)] at e
    have w1 : wk (a :: r) 0 1 = [a] := by simp [wk, nth]
    have w2 := wk_add (a :: r) 0 1 ((a :: r).length - 1)
    rw [show 1 + ((a :: r).length - 1) = (a :: r).length by omega, wk_all, w1] at w2
    have w3 : wk (a :: r) (0 + 1) ((a :: r).length - 1) = r := (List.cons.inj w2).2.symm
    rw [Nat.zero_add] at w3
    rw [w1, w3] at e
    have := h 1 (by omega)
    rw [hm, Nat.add_sub_cancel] at this
    rw [e, hm, this.1, this.2]
  rw [rn_snoc] at e1
  have e2 : rn r (-1, 0) = (a, 1) := by
    unfold stp at e1
    simp only [Prod.mk.injEq] at e1
    refine Prod.ext ?_ e1.1
    have := e1.2
    rw [e1.1] at this
    simp only []
    omega
  have e3 : rn (a :: r) (-a, -1) = (a, 1) := by
    rw [rn_cons]
    have : stp (-a, -1) a = (-1, 0) := by unfold stp; simp only [Prod.mk.injEq, true_and]; omega
    rw [this, e2]
  intro s
  have hs : s = addV (mulV (s.2 * a - s.1) (-1, 0)) (mulV (-s.2) (-a, -1)) := by
    unfold addV mulV
    exact Prod.ext (by simp only []; grind) (by simp only []; omega)
  rw [hs, rn_lin, e0, e3]
  unfold addV mulV
  exact Prod.ext (by simp only []; grind) (by simp only []; grind)
theorem closed_iff {R : List Int} (h2 : 2 ≤ R.length) : ClosedP R ↔ Eps (-1) R := ⟨closed_eps h2, eps_closed h2⟩
theorem left3_sum : ∀ R : List Int, left3 R = 3 * R.length - R.sum := by
  intro R
  induction R with
  | nil => rfl
  | cons a R ih => rw [left3, ih, List.length_cons, List.sum_cons]; omega
theorem good_iff {R : List Int} (h2 : 2 ≤ R.length) : Good R ↔ ClosedP R ∧ R.sum = 3 * R.length - 6 := by
  unfold Good
  rw [closed_iff h2, left3_sum]
  constructor
  · rintro ⟨h, k⟩; exact ⟨h, by omega⟩
  · rintro ⟨h, k⟩; exact ⟨h, by omega⟩
theorem eD_mod (R : List Int) (i : Nat) : ∀ d, eD R (i % R.length) d = eD R i d := by
  intro d
  induction d using Nat.strongRecOn with
  | _ d ih =>
    match d with
    | 0 => rfl
    | 1 => rfl
    | d + 2 => rw [eD, eD, ih (d + 1) (by omega), ih d (by omega), Nat.add_assoc, Nat.add_assoc, Nat.mod_add_mod]
theorem eD_bd {R : List Int} (h0 : 0 < R.length) (h : ∀ i, i < R.length → -12 ≤ nth R i ∧ nth R i ≤ 12) (i : Nat) : ∀ d, (-(13 ^ d) ≤ eD R i d ∧ eD R i d ≤ 13 ^ d) ∧ (-(13 ^ (d + 1)) ≤ eD R i (d + 1) ∧ eD R i (d + 1) ≤ 13 ^ (d + 1)) := by
  intro d
  induction d with
  | zero => simp [eD]
  | succ d ih =>
    refine ⟨ih.2, ?_⟩
    have hb := h ((i + d + 1) % R.length) (Nat.mod_lt _ h0)
    rw [eD]
    obtain ⟨⟨l0, u0⟩, l1, u1⟩ := ih
    generalize nth R ((i + d + 1) % R.length) = y at *
    generalize eD R i (d + 1) = p at *
    generalize eD R i d = q at *
    have e1 : (13 : Int) ^ (d + 1 + 1) = 13 * 13 ^ (d + 1) := by rw [Int.pow_succ]; omega
    have e0 : (13 : Int) ^ (d + 1) = 13 * 13 ^ d := by rw [Int.pow_succ]; omega
    rw [e1]
    generalize (13 : Int) ^ (d + 1) = P at *
    have hp : 0 ≤ P := by omega
    have h1 : y * p ≤ 12 * P := by
      rcases Int.le_total 0 p with hp0 | hp0
      · exact Int.le_trans (Int.mul_le_mul_of_nonneg_right hb.2 hp0) (by omega)
      · have : y * p ≤ (-12) * p := Int.mul_le_mul_of_nonpos_right hb.1 hp0
        omega
    have h2 : -(12 * P) ≤ y * p := by
      rcases Int.le_total 0 p with hp0 | hp0
      · have : (-12) * p ≤ y * p := Int.mul_le_mul_of_nonneg_right hb.1 hp0
        omega
      · have : 12 * p ≤ y * p := Int.mul_le_mul_of_nonpos_right hb.2 hp0
        omega
    omega
/-- The vectors of a list's numbers, one for each step. -/
def VV (R : List Int) (k : Nat) : Int × Int := ((rn (wk R 0 k) (-1, 0)).2, (rn (wk R 0 k) (0, -1)).2)
theorem VV_two (R : List Int) (k : Nat) : VV R (k + 2) = (nth R ((k + 1) % R.length) * (VV R (k + 1)).1 - (VV R k).1, nth R ((k + 1) % R.length) * (VV R (k + 1)).2 - (VV R k).2) := by
  unfold VV
  rw [wk_succ R 0 (k + 1), rn_snoc, rn_snoc, wk_succ R 0 k, rn_snoc, rn_snoc]
  unfold stp
  simp only [Nat.zero_add]
theorem VV_one (R : List Int) : ∀ k, det (VV R k) (VV R (k + 1)) = 1 := by
  intro k
  induction k with
  | zero =>
    unfold VV
    rw [wk_succ]
    simp [wk, rn, stp, det]
  | succ k ih =>
    rw [VV_two]
    unfold det at *
    simp only []
    grind
theorem eD_det (R : List Int) (i : Nat) : ∀ d, eD R i d = det (VV R i) (VV R (i + d)) := by
  intro d
  induction d using Nat.strongRecOn with
  | _ d ih =>
    match d with
    | 0 => rw [eD, Nat.add_zero, det_self]
    | 1 => rw [eD, VV_one]
    | d + 2 =>
      rw [eD, ih (d + 1) (by omega), ih d (by omega), show i + (d + 2) = i + d + 2 by omega, VV_two, show i + (d + 1) = i + d + 1 by omega]
      unfold det
      simp only []
      grind
theorem VV_turn {R : List Int} (h : Eps (-1) R) (k : Nat) : VV R (k + R.length) = mulV (-1) (VV R k) := by
  have : ∀ s, rn (wk R 0 (k + R.length)) s = mulV (-1) (rn (wk R 0 k) s) := fun s => by
    rw [Nat.add_comm k, wk_add, rn_append, wk_all, h, rn_mul, Nat.zero_add]
    congr 1
    rw [show wk R R.length k = wk R (0 + R.length) k by rw [Nat.zero_add], wk_period]
  unfold VV
  rw [this, this]
  rfl
theorem det_negl (a b : Int × Int) : det (mulV (-1) a) b = det b a := by unfold det mulV; simp only []; grind
theorem det_negr (a b : Int × Int) : det a (mulV (-1) b) = det b a := by unfold det mulV; simp only []; grind
theorem eD_symm {R : List Int} (h : Eps (-1) R) {i r : Nat} (hi : i < R.length) (hr : r ≤ R.length) : eD R i r = eD R ((i + r) % R.length) (R.length - r) := by
  rw [mod_small (by omega)]
  split
  · rename_i hlt
    rw [eD_det, eD_det, show i + r + (R.length - r) = i + R.length by omega, VV_turn h, det_negr]
  · rename_i hge
    rw [eD_det, eD_det, show i + r - R.length + (R.length - r) = i by omega]
    have e : VV R (i + r) = mulV (-1) (VV R (i + r - R.length)) := by rw [← VV_turn h]; congr 1; omega
    rw [e, det_negr]
theorem eD_diamond (R : List Int) (i r : Nat) (hr : 1 ≤ r) : eD R i r * eD R (i + 1) r - eD R (i + 1) (r - 1) * eD R i (r + 1) = 1 := by
  rw [eD_det, eD_det, eD_det, eD_det, show i + 1 + (r - 1) = i + r by omega, show i + (r + 1) = i + r + 1 by omega, show i + 1 + r = i + r + 1 by omega]
  have h1 := VV_one R i
  have h2 := VV_one R (i + r)
  generalize VV R i = a at *
  generalize VV R (i + 1) = b at *
  generalize VV R (i + r) = c at *
  generalize VV R (i + r + 1) = d at *
  have : det a c * det b d - det b c * det a d = det a b * det c d := by unfold det; grind
  rw [this, h1, h2]
  rfl
/-- Ptolemy's rule. -/
theorem eD_ptolemy (R : List Int) {i j k l : Nat} (h1 : i ≤ j) (h2 : j ≤ k) (h3 : k ≤ l) :
    eD R i (k - i) * eD R j (l - j) = eD R i (j - i) * eD R k (l - k) + eD R i (l - i) * eD R j (k - j) := by
  rw [eD_det, eD_det, eD_det, eD_det, eD_det, eD_det, show i + (k - i) = k by omega, show j + (l - j) = l by omega, show i + (j - i) = j by omega, show k + (l - k) = l by omega, show i + (l - i) = l by omega, show j + (k - j) = k by omega]
  unfold det
  grind
theorem vecs_eD {n : Nat} {L : List (Int × Int)} {v : Nat → Int × Int} (hf : Full (n : Int) L) (hv : Vecs n L v) (i : Nat) : ∀ d, i + d < n → eD (roundL n L) i d = det (v i) (v (i + d)) := by
  intro d
  have hl := (nth_round hf).1
  induction d using Nat.strongRecOn with
  | _ d ih =>
    intro hd
    match d with
    | 0 => rw [eD, Nat.add_zero, det_self]
    | 1 => rw [eD]; exact (hv.next i hd).symm
    | d + 2 =>
      rw [eD, ih (d + 1) (by omega) (by omega), ih d (by omega) (by omega), hl, Nat.mod_eq_of_lt (by omega)]
      have hm := hv.mid (i + d + 1) (by omega) (by omega)
      rw [Nat.add_sub_cancel] at hm
      rw [show i + (d + 2) = i + d + 1 + 1 by omega, show i + (d + 1) = i + d + 1 by omega]
      unfold det
      grind
theorem round_pos {m : Nat} {L : List (Int × Int)} (hf : Full ((m + 3 : Nat) : Int) L) {i k : Nat} (hik : i < k) (hk : k < m + 3) : 1 ≤ eD (roundL (m + 3) L) i (k - i) ∧ (eD (roundL (m + 3) L) i (k - i) = 1 ↔ Nr ((m + 3 : Nat) : Int) L i k) := by
  obtain ⟨v, hv⟩ := vecs_any m hf
  rw [vecs_eD hf hv i (k - i) (by omega), show i + (k - i) = k by omega]
  exact ⟨hv.pos i k hik hk, hv.one i k hik hk⟩
theorem round_posr {m : Nat} {L : List (Int × Int)} (hf : Full ((m + 3 : Nat) : Int) L) {i r : Nat} (hi : i < m + 3) (h1 : 1 ≤ r) (hr : r < m + 3) : 1 ≤ eD (roundL (m + 3) L) i r := by
  have hl := (nth_round hf).1
  by_cases h : i + r < m + 3
  · have := (round_pos hf (i := i) (k := i + r) (by omega) h).1
    rwa [show i + r - i = r by omega] at this
  · rw [eD_symm (good_round m hf).1 (by omega) (by omega), hl, mod_small (by omega), if_neg h]
    have := (round_pos hf (i := i + r - (m + 3)) (k := i) (by omega) hi).1
    rwa [show i - (i + r - (m + 3)) = m + 3 - r by omega] at this
theorem good_one {R : List Int} (hT : Tame R) (hG : Good R) (h4 : 4 ≤ R.length) {j : Nat} (hj : j < R.length) (hj1 : nth R j = 1) : EarP R j := by
  have hpos : ∀ a ∈ R, 1 ≤ a := fun a ha => by
    obtain ⟨i, hi, rfl⟩ := mem_nth' ha
    exact (hT i hi).1
  obtain ⟨a, y, b, w, u, v, u', v', e1, e2, e3, e4, ea, ey, eb⟩ := cut_form (c := j) (by omega) hj
  rw [hj1] at ey
  subst ey
  have hE : Eps (-1) (a :: 1 :: b :: w) := by rw [← e2]; have := hG.1; rw [e1] at this; exact this.rot
  have hl6 : left3 (a :: 1 :: b :: w) = 6 := by rw [← e2]; have := hG.2; rw [e1, left3_append] at this; rw [left3_append]; omega
  have hlen : (a :: 1 :: b :: w).length = R.length := by rw [← e2, e1]; simp; omega
  have hp' : ∀ z ∈ a :: 1 :: b :: w, 1 ≤ z := fun z hz => hpos z (by rw [← e2] at hz; rw [e1]; simp at hz ⊢; exact hz.symm)
  have := no_pair hE hp' hl6 (by simp at hlen; omega)
  exact ⟨hj1, by rw [← ea]; exact this.1, by rw [← eb]; exact this.2⟩
theorem good_has {R : List Int} (hT : Tame R) (hG : Good R) (h3 : 1 ≤ R.length) : ∃ j, j < R.length ∧ nth R j = 1 := by
  have hne : R ≠ [] := fun e => by rw [e] at h3; simp at h3
  obtain ⟨x, hx, hx2⟩ := no_growth hG.1 hne
  obtain ⟨j, hj, hj1⟩ := mem_nth' hx
  exact ⟨j, hj, by have := hT j hj; omega⟩
/-- The first 1. -/
def oneOf (R : List Int) : Option Nat := (List.range R.length).find? fun c => decide (nth R c = 1)
theorem oneOf_some {R : List Int} {c : Nat} : oneOf R = some c ↔ c < R.length ∧ nth R c = 1 ∧ ∀ j, j < c → nth R j ≠ 1 := by
  unfold oneOf
  rw [List.find?_range_eq_some]
  constructor
  · rintro ⟨h1, h2, h3⟩
    exact ⟨List.mem_range.1 h2, of_decide_eq_true h1, fun j hj => by simpa using h3 j hj⟩
  · rintro ⟨h1, h2, h3⟩
    exact ⟨decide_eq_true h2, List.mem_range.2 h1, fun j hj => by simpa using h3 j hj⟩
theorem oneOf_none {R : List Int} : oneOf R = none ↔ ∀ j, j < R.length → nth R j ≠ 1 := by
  unfold oneOf
  rw [List.find?_eq_none]
  constructor
  · intro h j hj; simpa using h j (List.mem_range.2 hj)
  · intro h j hj; simpa using h j (List.mem_range.1 hj)
theorem good_first {R : List Int} (hT : Tame R) (hG : Good R) (h4 : 4 ≤ R.length) : ∃ c, oneOf R = some c ∧ earOf R = some c ∧ EarP R c ∧ c < R.length := by
  cases h : oneOf R with
  | none =>
    obtain ⟨j, hj, hj1⟩ := good_has hT hG (by omega)
    exact absurd hj1 (oneOf_none.1 h j hj)
  | some c =>
    obtain ⟨h1, h2, h3⟩ := oneOf_some.1 h
    have he := good_one hT hG h4 h1 h2
    exact ⟨c, rfl, earOf_some h1 he fun j hj hej => h3 j hj hej.1, he, h1⟩
/-- The specification's way: the first 1 has to be an ear; lines are put into their places. -/
def runF : Nat → List Int → List Int → List (Int × Int) → Option (List Int × List (Int × Int))
  | 0, _, _, _ => none
  | f + 1, R, C, S => if C.length ≤ 3 then some (R, S) else
    match oneOf R with
    | none => none
    | some c => if EarP R c then runF f (cutL R c) (C.eraseIdx c) (putL S (earLine C c)) else none
theorem runF_good : ∀ (f : Nat) (R C : List Int) (S T S' : List (Int × Int)) (R' : List Int), R.length = C.length → 3 ≤ R.length → Tame R → Good R → runE f R C T = some (R', T ++ S') → runF f R C S = some (R', S'.foldl putL S) := by
  intro f
  induction f with
  | zero => intro R C S T S' R' _ _ _ _ h; cases h
  | succ f ih =>
    intro R C S T S' R' hl h3 hT hG h
    rw [runE] at h
    rw [runF]
    split at h
    · rename_i h3'
      rw [if_pos h3']
      simp only [Option.some.injEq, Prod.mk.injEq] at h
      obtain ⟨rfl, h⟩ := h
      have : S' = [] := by
        have := congrArg List.length h
        simp at this
        exact this
      rw [this]
      rfl
    · rename_i h3'
      rw [if_neg h3']
      obtain ⟨c, e1, e2, he, hc⟩ := good_first hT hG (by omega)
      rw [e2] at h
      rw [e1]
      simp only [] at h ⊢
      rw [if_pos he]
      cases S' with
      | nil =>
        exfalso
        rw [List.append_nil] at h
        have key : ∀ (g : Nat) (A B : List Int) (X Y : List (Int × Int)) (Z : List Int), runE g A B X = some (Z, Y) → X.length ≤ Y.length := by
          intro g
          induction g with
          | zero => intro A B X Y Z h; cases h
          | succ g ihg =>
            intro A B X Y Z h
            rw [runE] at h
            split at h
            · simp only [Option.some.injEq, Prod.mk.injEq] at h; rw [h.2]; exact Nat.le_refl _
            · split at h
              · cases h
              · have := ihg _ _ _ _ _ h; simp at this; omega
        have := key _ _ _ _ _ _ h
        simp at this
        omega
      | cons q S' =>
        have hpre : ∀ (g : Nat) (A B : List Int) (X Y : List (Int × Int)) (Z : List Int), runE g A B X = some (Z, Y) → ∃ W, Y = X ++ W := by
          intro g
          induction g with
          | zero => intro A B X Y Z h; cases h
          | succ g ihg =>
            intro A B X Y Z h
            rw [runE] at h
            split at h
            · simp only [Option.some.injEq, Prod.mk.injEq] at h; exact ⟨[], by rw [h.2, List.append_nil]⟩
            · split at h
              · cases h
              · obtain ⟨W, hW⟩ := ihg _ _ _ _ _ h
                exact ⟨_, by rw [hW, List.append_assoc]⟩
        obtain ⟨W, hW⟩ := hpre _ _ _ _ _ _ h
        rw [List.append_assoc] at hW
        have hW' := List.append_cancel_left hW
        simp only [List.singleton_append, List.cons.injEq] at hW'
        obtain ⟨rfl, rfl⟩ := hW'
        have := ih (cutL R c) (C.eraseIdx c) (putL S (earLine C c)) (T ++ [earLine C c]) S' R' (by rw [cutL_length hc, List.length_eraseIdx_of_lt (by omega)]; omega) (by rw [cutL_length hc]; omega) (cutL_tame hT hc he h3) (hG.cut h3 hc he.1) (by rw [h, List.append_assoc]; rfl)
        rw [this]
        rfl
theorem runF_back : ∀ (f : Nat) (R C : List Int) (S S' : List (Int × Int)) (R' : List Int), R.length = C.length → 3 ≤ R.length → Tame R → runF f R C S = some (R', S') → (nth R' 0 = 1 ∧ nth R' 1 = 1 ∧ nth R' 2 = 1) → Good R := by
  intro f
  induction f with
  | zero => intro R C S S' R' _ _ _ h _; cases h
  | succ f ih =>
    intro R C S S' R' hl h3 hT h h1
    rw [runF] at h
    split at h
    · rename_i h3'
      simp only [Option.some.injEq, Prod.mk.injEq] at h
      obtain ⟨rfl, _⟩ := h
      have : R = [1, 1, 1] := ext_nth (by simp; omega) fun i hi => by
        have : i = 0 ∨ i = 1 ∨ i = 2 := by omega
        rcases this with rfl | rfl | rfl
        · rw [h1.1]; rfl
        · rw [h1.2.1]; rfl
        · rw [h1.2.2]; rfl
      rw [this]
      exact good_three
    · rename_i h3'
      cases hc : oneOf R with
      | none => rw [hc] at h; cases h
      | some c =>
        rw [hc] at h
        simp only [] at h
        split at h
        · rename_i he
          obtain ⟨hcl, hc1, _⟩ := oneOf_some.1 hc
          exact good_uncut (ih _ _ _ _ _ (by rw [cutL_length hcl, List.length_eraseIdx_of_lt (by omega)]; omega) (by rw [cutL_length hcl]; omega) (cutL_tame hT hcl he h3) h h1) h3 hcl hc1
        · cases h
theorem runE_len : ∀ (f : Nat) (R C : List Int) (S S' : List (Int × Int)) (R' : List Int), R.length = C.length → runE f R C S = some (R', S') → R'.length ≤ 3 ∧ (3 ≤ R.length → R'.length = 3) ∧ (Tame R → 3 ≤ R.length → Tame R') := by
  intro f
  induction f with
  | zero => intro R C S S' R' _ h; cases h
  | succ f ih =>
    intro R C S S' R' hl h
    rw [runE] at h
    split at h
    · simp only [Option.some.injEq, Prod.mk.injEq] at h
      obtain ⟨rfl, _⟩ := h
      exact ⟨by omega, fun _ => by omega, fun ht _ => ht⟩
    · cases hc : earOf R with
      | none => rw [hc] at h; cases h
      | some c =>
        rw [hc] at h
        obtain ⟨hcl, hear, _⟩ := earOf_lt hc
        have := ih _ _ _ _ _ (by rw [cutL_length hcl, List.length_eraseIdx_of_lt (by omega)]; omega) h
        rw [cutL_length hcl] at this
        exact ⟨this.1, fun _ => this.2.1 (by omega), fun ht _ => this.2.2 (cutL_tame ht hcl hear (by omega)) (by omega)⟩
/-- What the specification's Of returns. -/
def ofF (xs : List Int) : Option (List (Int × Int)) :=
  match runF 13 xs (upTo xs.length) [] with
  | none => none
  | some (R, S) => if nth R 0 = 1 ∧ nth R 1 = 1 ∧ nth R 2 = 1 then some S else none
theorem ofL_good {xs : List Int} (hT : Tame xs) (h3 : 3 ≤ xs.length) (h12 : xs.length ≤ 12) (hG : Good xs) : ∃ M, ofL xs = some M ∧ ofF xs = some M := by
  obtain ⟨R', S, hr, hm⟩ := good_run (xs.length - 3) 13 xs (by omega) hT hG (by omega)
  have hF := runF_good 13 xs (upTo xs.length) [] [] S R' (by rw [upTo_length]) h3 hT hG (by rw [hr]; rfl)
  have hlen := runE_len 13 xs (upTo xs.length) [] S R' (by rw [upTo_length]) hr
  have h1 := (maxL_one (hlen.2.2 hT h3) (by have := hlen.2.1 h3; omega)).1 hm
  have h33 := hlen.2.1 h3
  refine ⟨sortL S, ?_, ?_⟩
  · unfold ofL
    rw [hr]
    simp only []
    rw [if_pos hm]
  · unfold ofF
    rw [hF]
    simp only []
    rw [if_pos ⟨h1 0 (by omega), h1 1 (by omega), h1 2 (by omega)⟩]
    rfl
theorem ofL_brand {xs : List Int} {M : List (Int × Int)} (hT : Tame xs) (h3 : 3 ≤ xs.length) (h : ofL xs = some M) : Full (xs.length : Int) M ∧ SortedP M ∧ roundL xs.length M = xs := by
  unfold ofL at h
  cases hr : runE 13 xs (upTo xs.length) [] with
  | none => rw [hr] at h; cases h
  | some p =>
    obtain ⟨R', S⟩ := p
    rw [hr] at h
    simp only [] at h
    split at h
    · rename_i hm
      simp only [Option.some.injEq] at h
      subst h
      obtain ⟨m, hmm⟩ : ∃ m, xs.length = m + 3 := ⟨xs.length - 3, by omega⟩
      have := run_brand m 13 xs hmm hT R' S hr hm (sortL S) (sortL_perm S)
      rw [hmm]
      exact ⟨this.1, sortL_sorted S, this.2⟩
    · cases h
theorem ofL_iff {xs : List Int} (hT : Tame xs) (h3 : 3 ≤ xs.length) (h12 : xs.length ≤ 12) : (∃ M, ofL xs = some M) ↔ Good xs := by
  constructor
  · rintro ⟨M, h⟩
    obtain ⟨h1, h2, h4⟩ := ofL_brand hT h3 h
    obtain ⟨m, hmm⟩ : ∃ m, xs.length = m + 3 := ⟨xs.length - 3, by omega⟩
    rw [hmm] at h1 h4
    rw [← h4]
    exact good_round m h1
  · intro hG
    obtain ⟨M, h, _⟩ := ofL_good hT h3 h12 hG
    exact ⟨M, h⟩
theorem ofL_none {xs : List Int} (hT : Tame xs) (h3 : 3 ≤ xs.length) (h12 : xs.length ≤ 12) : ofL xs = none ↔ ¬ Good xs := by
  rw [← ofL_iff hT h3 h12]
  cases ofL xs with
  | none => simp
  | some M => simp
/-- Both sides return the same lines. -/
theorem ofF_ofL {xs : List Int} (hT : Tame xs) (h3 : 3 ≤ xs.length) (h12 : xs.length ≤ 12) : ofF xs = ofL xs := by
  by_cases hG : Good xs
  · obtain ⟨M, h1, h2⟩ := ofL_good hT h3 h12 hG
    rw [h1, h2]
  · rw [(ofL_none hT h3 h12).2 hG]
    unfold ofF
    cases hr : runF 13 xs (upTo xs.length) [] with
    | none => rfl
    | some p =>
      obtain ⟨R', S⟩ := p
      simp only []
      rw [if_neg fun h1 => hG (runF_back 13 xs _ [] S R' (by rw [upTo_length]) h3 hT hr h1)]
theorem ofL_round {m : Nat} {L : List (Int × Int)} (hf : Full ((m + 3 : Nat) : Int) L) (hs : SortedP L) (hm : m ≤ 9) : ofL (roundL (m + 3) L) = some L := by
  obtain ⟨R', S, hr, hp, hmx⟩ := run_back m 13 hf (by omega)
  unfold ofL
  rw [(nth_round hf).1, hr]
  simp only []
  rw [if_pos hmx, sortL_one hp.symm hs]
end
section
open Go Go.RowKit

/-- A line that is not there crosses one that is. -/
theorem full_cut {n : Int} {L : List (Int × Int)} {x : Int × Int} (hf : Full n L) (hx : LineP n x) (hn : x ∉ L) : ∃ p ∈ L, CutP p x ∨ CutP x p := by
  refine Classical.byContradiction fun hh => ?_
  have h0 : ∀ p ∈ L, ¬ CutP p x ∧ ¬ CutP x p := fun p hp => ⟨fun h => hh ⟨p, hp, .inl h⟩, fun h => hh ⟨p, hp, .inr h⟩⟩
  have hL : Lns n (x :: L) := by
    refine ⟨fun q hq => ?_, fun p hp q hq => ?_, List.nodup_cons.2 ⟨hn, hf.1.2.2⟩⟩
    · rcases List.mem_cons.1 hq with rfl | hq
      · exact hx
      · exact hf.1.1 q hq
    · rcases List.mem_cons.1 hp with e | hp'
      · rcases List.mem_cons.1 hq with e2 | hq'
        · rw [e, e2]; unfold CutP; omega
        · rw [e]; exact (h0 q hq').2
      · rcases List.mem_cons.1 hq with e2 | hq'
        · rw [e2]; exact (h0 p hp').1
        · exact hf.1.2.1 p hp' q hq'
  obtain ⟨m, hm⟩ : ∃ m : Nat, n = m + 3 := ⟨(n - 3).toNat, by have := hf.2.1; omega⟩
  subst hm
  have h1 := lns_most m hL
  have h2 := hf.2.2
  rw [List.length_cons] at h1
  omega
theorem nr_cases {n : Int} {L : List (Int × Int)} (hn : 3 ≤ n) (hl : ∀ q ∈ L, LineP n q) {i k : Int} (h : Nr n L i k) (hik : i < k) : k = i + 1 ∨ (i = 0 ∧ k = n - 1) ∨ (i, k) ∈ L := by
  rcases h with h | h | h
  · omega
  · exact .inr (.inr h)
  · have := hl _ h
    unfold LineP at this
    omega
/-- What does not cross the lines does not cross what is near. -/
theorem nr_free {n : Int} {L : List (Int × Int)} (hn : 3 ≤ n) (hl : ∀ q ∈ L, LineP n q) {p : Int × Int} (p0 : 0 ≤ p.1) (p1 : p.2 < n) {i k : Int} (h : Nr n L i k) (hik : i < k) (hc : (i, k) ∈ L → ¬ CutP p (i, k) ∧ ¬ CutP (i, k) p) : ¬ CutP p (i, k) ∧ ¬ CutP (i, k) p := by
  rcases nr_cases hn hl h hik with h | ⟨h1, h2⟩ | h
  · unfold CutP; simp only []; omega
  · unfold CutP; simp only []; omega
  · exact hc h
theorem nr_nocut {n : Int} {L : List (Int × Int)} (hf : Full n L) {p : Int × Int} (hp : p ∈ L) {i k : Int} (h : Nr n L i k) (hik : i < k) : ¬ CutP p (i, k) ∧ ¬ CutP (i, k) p := by
  have := hf.1.1 p hp
  unfold LineP at this
  exact nr_free hf.2.1 hf.1.1 (by omega) (by omega) h hik fun hm => ⟨hf.1.2.1 p hp _ hm, hf.1.2.1 _ hm p hp⟩
theorem last_one {P : Int → Prop} {b : Int} : ∀ (d : Nat) (t : Int), t < b → P t → (b - t).toNat ≤ d → ∃ s, t ≤ s ∧ s < b ∧ P s ∧ ∀ r, s < r → r < b → ¬ P r := by
  intro d
  induction d with
  | zero => intro t h1 h2 h3; omega
  | succ d ih =>
    intro t h1 h2 h3
    by_cases h : ∃ r, t < r ∧ r < b ∧ P r
    · obtain ⟨r, hr1, hr2, hr3⟩ := h
      obtain ⟨s, a1, a2, a3, a4⟩ := ih r hr2 hr3 (by omega)
      exact ⟨s, by omega, a2, a3, a4⟩
    · exact ⟨t, by omega, h1, h2, fun r r1 r2 r3 => h ⟨r, r1, r2, r3⟩⟩
theorem tip_in {n : Int} {L : List (Int × Int)} (hf : Full n L) {a b : Int} (a0 : 0 ≤ a) (b1 : b < n) (hab : a + 2 ≤ b) (h : Nr n L a b) : ∃ t, a < t ∧ t < b ∧ Nr n L a t ∧ Nr n L t b := by
  obtain ⟨t, h1, h2, h3, h4⟩ := last_one (P := fun s => Nr n L a s) (b := b) (b - (a + 1)).toNat (a + 1) (by omega) (.inl (.inl rfl)) (by omega)
  refine ⟨t, by omega, h2, h3, ?_⟩
  by_cases e : t + 1 = b
  · exact .inl (.inl e.symm)
  · refine Classical.byContradiction fun hn => ?_
    have hm : (t, b) ∉ L := fun h => hn (.inr (.inl h))
    obtain ⟨⟨e, f⟩, hp, hc⟩ := full_cut hf (x := (t, b)) (by unfold LineP; simp only []; omega) hm
    have c1 := nr_nocut hf hp h (by omega)
    have c2 := nr_nocut hf hp h3 (by omega)
    unfold CutP at hc c1 c2
    simp only [] at hc c1 c2
    have he : e = a ∧ t < f ∧ f < b := by omega
    obtain ⟨rfl, k1, k2⟩ := he
    exact h4 f k1 k2 (.inr (.inl hp))
theorem tip_in_one {n : Int} {L : List (Int × Int)} (hf : Full n L) {a b t u : Int} (_a0 : 0 ≤ a) (b1 : b < n) (t1 : a < t) (t2 : t < b) (u1 : a < u) (u2 : u < b) (ht1 : Nr n L a t) (ht2 : Nr n L t b) (hu1 : Nr n L a u) (hu2 : Nr n L u b) : t = u := by
  have key : ∀ s r, a < s → s < r → r < b → Nr n L a r → Nr n L s b → False := by
    intro s r h1 h2 h3 hr hs
    rcases nr_cases hf.2.1 hf.1.1 hr (by omega) with h | ⟨h, h'⟩ | h
    · omega
    · omega
    · have := (nr_nocut hf h hs (by omega)).1
      unfold CutP at this
      simp only [] at this
      omega
  rcases Int.lt_trichotomy t u with h | h | h
  · exact (key t u t1 h u2 hu1 ht2).elim
  · exact h
  · exact (key u t u1 h t2 ht1 hu2).elim
def upA (n b s : Int) : Int := if b + s < n then b + s else b + s - n
theorem tip_out {n : Int} {L : List (Int × Int)} (hf : Full n L) {a b : Int} (h : (a, b) ∈ L) : ∃ t, 0 ≤ t ∧ t < n ∧ (t < a ∨ b < t) ∧ Nr n L t a ∧ Nr n L t b := by
  have hl := hf.1.1 _ h
  have hnab : Nr n L a b := .inr (.inl h)
  unfold LineP at hl
  simp only [] at hl
  obtain ⟨s, h1, h2, h3, h4⟩ := last_one (P := fun s => Nr n L (upA n b s) b) (b := n - b + a) (n - b + a).toNat 1 (by omega) (by left; unfold upA; split <;> omega) (by omega)
  have hmax : ∀ d, Nr n L d b → 0 ≤ d → d < n → (d < a ∨ b < d) → (if b < d then d - b else d + n - b) ≤ s := by
    intro d hd d0 d1 d2
    refine Classical.byContradiction fun hh => ?_
    refine h4 (if b < d then d - b else d + n - b) (by omega) (by split <;> omega) ?_
    have : upA n b (if b < d then d - b else d + n - b) = d := by unfold upA; split <;> split <;> omega
    rw [this]
    exact hd
  obtain ⟨t, ht⟩ : ∃ t, t = upA n b s := ⟨_, rfl⟩
  have hts : (b < t ∧ t = b + s ∧ t < n) ∨ (t < a ∧ t = b + s - n ∧ 0 ≤ t) := by rw [ht]; unfold upA; split <;> omega
  rw [← ht] at h3
  refine ⟨t, by omega, by omega, by omega, ?_, h3⟩
  refine Classical.byContradiction fun hn => ?_
  rcases hts with ⟨k1, k2, k3⟩ | ⟨k1, k2, k3⟩
  · have hn1 : ¬ (t = a + 1 ∨ (a = 0 ∧ t = n - 1)) := fun e => hn (by left; omega)
    have hm : (a, t) ∉ L := fun h => hn (.inr (.inr h))
    obtain ⟨⟨e, f⟩, hp, hc⟩ := full_cut hf (x := (a, t)) (by unfold LineP; simp only []; omega) hm
    have hpl := hf.1.1 _ hp
    have c1 := nr_nocut hf hp hnab (by omega)
    have c2 := nr_nocut hf hp h3.symm k1
    unfold LineP at hpl
    unfold CutP at hc c1 c2
    simp only [] at hc c1 c2 hpl
    have he : (f = b ∧ e < a) ∨ (e = b ∧ t < f) := by omega
    rcases he with ⟨rfl, he⟩ | ⟨rfl, he⟩
    · have := hmax e (.inr (.inl hp)) (by omega) (by omega) (.inl he)
      rw [if_neg (by omega)] at this
      omega
    · have := hmax f (.inr (.inr hp)) (by omega) (by omega) (.inr (by omega))
      rw [if_pos (by omega)] at this
      omega
  · have hn1 : ¬ (a = t + 1) := fun e => hn (by left; omega)
    have hm : (t, a) ∉ L := fun h => hn (.inr (.inl h))
    obtain ⟨⟨e, f⟩, hp, hc⟩ := full_cut hf (x := (t, a)) (by unfold LineP; simp only []; omega) hm
    have hpl := hf.1.1 _ hp
    have c1 := nr_nocut hf hp hnab (by omega)
    have c2 := nr_nocut hf hp h3 (by omega)
    unfold LineP at hpl
    unfold CutP at hc c1 c2
    simp only [] at hc c1 c2 hpl
    have he : f = b ∧ t < e ∧ e < a := by omega
    obtain ⟨rfl, he1, he2⟩ := he
    have := hmax e (.inr (.inl hp)) (by omega) (by omega) (.inl he2)
    rw [if_neg (by omega)] at this
    omega
theorem tip_out_one {n : Int} {L : List (Int × Int)} (hf : Full n L) {a b t u : Int} (h : (a, b) ∈ L) (t0 : 0 ≤ t) (tn : t < n) (u0 : 0 ≤ u) (un : u < n) (t1 : t < a ∨ b < t) (u1 : u < a ∨ b < u) (ht1 : Nr n L t a) (ht2 : Nr n L t b) (hu1 : Nr n L u a) (hu2 : Nr n L u b) : t = u := by
  have hl := hf.1.1 _ h
  unfold LineP at hl
  simp only [] at hl
  have key : ∀ s r, 0 ≤ s → s < n → 0 ≤ r → r < n → (s < a ∨ b < s) → (r < a ∨ b < r) → Nr n L s a → Nr n L r b → ((b < s ∧ s < r) ∨ (b < s ∧ r < a) ∨ (s < r ∧ r < a)) → False := by
    intro s r s0 sn r0 rn s1 r1 hs hr hh
    by_cases c : b < s
    · have hs' : (a, s) ∈ L := by
        rcases nr_cases hf.2.1 hf.1.1 hs.symm (by omega) with h | h | h
        · omega
        · omega
        · exact h
      by_cases c2 : b < r
      · have := (nr_nocut hf hs' hr.symm c2).1
        unfold CutP at this
        simp only [] at this
        omega
      · have := (nr_nocut hf hs' hr (by omega)).2
        unfold CutP at this
        simp only [] at this
        omega
    · have hs' : (s, a) ∈ L := by
        rcases nr_cases hf.2.1 hf.1.1 hs (by omega) with h | h | h
        · omega
        · omega
        · exact h
      have := (nr_nocut hf hs' hr (by omega)).1
      unfold CutP at this
      simp only [] at this
      omega
  refine Classical.byContradiction fun hne => ?_
  have : ((b < t ∧ t < u) ∨ (b < t ∧ u < a) ∨ (t < u ∧ u < a)) ∨ ((b < u ∧ u < t) ∨ (b < u ∧ t < a) ∨ (u < t ∧ t < a)) := by omega
  rcases this with h | h
  · exact key t u t0 tn u0 un t1 u1 ht1 hu2 h
  · exact key u t u0 un t0 tn u1 t1 hu1 ht2 h
/-- The two tips of a line. -/
structure Tips (n : Int) (L : List (Int × Int)) (q : Int × Int) (c d : Int) : Prop where
  c1 : q.1 < c
  c2 : c < q.2
  d0 : 0 ≤ d
  d1 : d < n
  d2 : d < q.1 ∨ q.2 < d
  ca : Nr n L q.1 c
  cb : Nr n L c q.2
  da : Nr n L d q.1
  db : Nr n L d q.2
theorem tips_any {n : Int} {L : List (Int × Int)} (hf : Full n L) {q : Int × Int} (h : q ∈ L) : ∃ c d, Tips n L q c d := by
  obtain ⟨a, b⟩ := q
  have hl := hf.1.1 _ h
  unfold LineP at hl
  simp only [] at hl
  obtain ⟨c, k1, k2, k3, k4⟩ := tip_in hf (by omega) (by omega) (by omega) (.inr (.inl h) : Nr n L a b)
  obtain ⟨d, j1, j2, j3, j4, j5⟩ := tip_out hf h
  exact ⟨c, d, k1, k2, j1, j2, j3, k3, k4, j4, j5⟩
def mm (c d : Int) : Int × Int := (min c d, max c d)
theorem mm_cases (c d : Int) : (c ≤ d ∧ mm c d = (c, d)) ∨ (d < c ∧ mm c d = (d, c)) := by
  unfold mm
  by_cases h : d < c
  · right; rw [Int.min_eq_right (by omega), Int.max_eq_left (by omega)]; exact ⟨h, rfl⟩
  · left; rw [Int.min_eq_left (by omega), Int.max_eq_right (by omega)]; exact ⟨by omega, rfl⟩
theorem mm_le {c d : Int} (h : c ≤ d) : mm c d = (c, d) := by
  rcases mm_cases c d with k | k
  · exact k.2
  · omega
theorem mm_ge {c d : Int} (h : d < c) : mm c d = (d, c) := by
  rcases mm_cases c d with k | k
  · omega
  · exact k.2
theorem Tips.line {n : Int} {L : List (Int × Int)} (hf : Full n L) {q : Int × Int} (h : q ∈ L) {c d : Int} (t : Tips n L q c d) : LineP n (mm c d) ∧ mm c d ≠ q ∧ (CutP (mm c d) q ∨ CutP q (mm c d)) := by
  obtain ⟨a, b⟩ := q
  have hl := hf.1.1 _ h
  obtain ⟨c1, c2, d0, d1, d2, _, _, _, _⟩ := t
  unfold LineP at hl ⊢
  unfold CutP
  simp only [] at *
  rcases mm_cases c d with ⟨h1, h2⟩ | ⟨h1, h2⟩
  · rw [h2]; simp only [ne_eq, Prod.mk.injEq]; omega
  · rw [h2]; simp only [ne_eq, Prod.mk.injEq]; omega
theorem Tips.cross {n : Int} {L : List (Int × Int)} (hf : Full n L) {q : Int × Int} (h : q ∈ L) {c d : Int} (t : Tips n L q c d) {p : Int × Int} (hp : p ∈ L) (hpq : p ≠ q) : ¬ CutP p (mm c d) ∧ ¬ CutP (mm c d) p := by
  obtain ⟨a, b⟩ := q
  obtain ⟨e, f⟩ := p
  have hl := hf.1.1 _ h
  have hpl := hf.1.1 _ hp
  obtain ⟨c1, c2, d0, d1, d2, ca, cb, da, db⟩ := t
  simp only [ne_eq, Prod.mk.injEq] at *
  have x1 := nr_nocut hf hp ca (by omega)
  have x2 := nr_nocut hf hp cb (by omega)
  have x0 := nr_nocut hf hp (.inr (.inl h) : Nr n L a b) (by unfold LineP at hl; simp only [] at hl; omega)
  unfold LineP at hl hpl
  unfold CutP at *
  simp only [] at *
  rcases d2 with d2 | d2
  · have x3 := nr_nocut hf hp da (by omega)
    have x4 := nr_nocut hf hp db (by omega)
    rw [mm_ge (by omega)]
    unfold CutP at *
    simp only [] at *
    omega
  · have x3 := nr_nocut hf hp da.symm (by omega)
    have x4 := nr_nocut hf hp db.symm (by omega)
    rw [mm_le (by omega)]
    unfold CutP at *
    simp only [] at *
    omega
theorem flip_full {n : Int} {L K M : List (Int × Int)} (hf : Full n L) {q : Int × Int} (hK : L.Perm (q :: K)) {c d : Int} (t : Tips n L q c d) (hM : M.Perm (mm c d :: K)) : Full n M ∧ mm c d ∉ L := by
  have hq : q ∈ L := hK.mem_iff.2 (by simp)
  obtain ⟨l1, l2, l3⟩ := t.line hf hq
  have hnd := hK.nodup_iff.1 hf.1.2.2
  have hKL : ∀ p ∈ K, p ∈ L ∧ p ≠ q := fun p hp => ⟨hK.mem_iff.2 (by simp [hp]), fun e => by subst e; exact (List.nodup_cons.1 hnd).1 hp⟩
  have hx : mm c d ∉ L := fun hm => by
    rcases l3 with l3 | l3
    · exact hf.1.2.1 _ hm _ hq l3
    · exact hf.1.2.1 _ hq _ hm l3
  refine ⟨full_perm ⟨⟨fun p hp => ?_, fun p hp r hr => ?_, ?_⟩, hf.2.1, ?_⟩ hM, hx⟩
  · rcases List.mem_cons.1 hp with rfl | hp
    · exact l1
    · exact hf.1.1 p (hKL p hp).1
  · rcases List.mem_cons.1 hp with rfl | hp
    · rcases List.mem_cons.1 hr with rfl | hr
      · unfold CutP; omega
      · exact (t.cross hf hq (hKL r hr).1 (hKL r hr).2).2
    · rcases List.mem_cons.1 hr with rfl | hr
      · exact (t.cross hf hq (hKL p hp).1 (hKL p hp).2).1
      · exact hf.1.2.1 p (hKL p hp).1 r (hKL r hr).1
  · exact List.nodup_cons.2 ⟨fun hm => hx (hKL _ hm).1, (List.nodup_cons.1 hnd).2⟩
  · have := hf.2.2
    rw [hK.length_eq] at this
    simpa using this
/-- There is no other line that makes a brand. -/
theorem flip_one {n : Int} {L K M : List (Int × Int)} (hf : Full n L) {q y : Int × Int} (hK : L.Perm (q :: K)) {c d : Int} (t : Tips n L q c d) (hM : M.Perm (y :: K)) (hy : y ≠ q) (hfM : Full n M) : y = mm c d := by
  have hq : q ∈ L := hK.mem_iff.2 (by simp)
  have hndM := hM.nodup_iff.1 hfM.1.2.2
  have hyM : y ∈ M := hM.mem_iff.2 (by simp)
  have hyl := hfM.1.1 y hyM
  have hKM : ∀ p ∈ K, p ∈ M := fun p hp => hM.mem_iff.2 (by simp [hp])
  have hyL : y ∉ L := fun h => by
    rcases List.mem_cons.1 (hK.mem_iff.1 h) with h | h
    · exact hy h
    · exact (List.nodup_cons.1 hndM).1 h
  have hfree : ∀ p ∈ L, p ≠ q → ¬ CutP y p ∧ ¬ CutP p y := fun p hp hpq => by
    have hpK : p ∈ K := by
      rcases List.mem_cons.1 (hK.mem_iff.1 hp) with h | h
      · exact absurd h hpq
      · exact h
    exact ⟨hfM.1.2.1 y hyM p (hKM p hpK), hfM.1.2.1 p (hKM p hpK) y hyM⟩
  have hcut : CutP q y ∨ CutP y q := by
    obtain ⟨p, hp, hc⟩ := full_cut hf hyl hyL
    by_cases e : p = q
    · subst e; exact hc
    · have := hfree p hp e
      rcases hc with hc | hc
      · exact absurd hc this.2
      · exact absurd hc this.1
  have hl := hf.1.1 _ hq
  obtain ⟨a, b⟩ := q
  obtain ⟨y1, y2⟩ := y
  obtain ⟨c1, c2, d0, d1, d2, ca, cb, da, db⟩ := t
  unfold LineP at hl hyl
  simp only [] at *
  have free : ∀ i k, Nr n L i k → i < k → (i ≠ a ∨ k ≠ b) → ¬ CutP (y1, y2) (i, k) ∧ ¬ CutP (i, k) (y1, y2) := fun i k h hik hne =>
    nr_free hf.2.1 hf.1.1 (by simp only []; omega) (by simp only []; omega) h hik fun hm => hfree _ hm (by simp only [ne_eq, Prod.mk.injEq]; omega)
  have x1 := free _ _ ca (by omega) (by omega)
  have x2 := free _ _ cb (by omega) (by omega)
  unfold CutP at hcut
  simp only [] at hcut
  rcases d2 with d2 | d2
  · have x3 := free _ _ da (by omega) (by omega)
    have x4 := free _ _ db (by omega) (by omega)
    rw [mm_ge (by omega)]
    unfold CutP at *
    simp only [] at *
    have : y1 = d ∧ y2 = c := by omega
    rw [this.1, this.2]
  · have x3 := free _ _ da.symm (by omega) (by omega)
    have x4 := free _ _ db.symm (by omega) (by omega)
    rw [mm_le (by omega)]
    unfold CutP at *
    simp only [] at *
    have : y1 = c ∧ y2 = d := by omega
    rw [this.1, this.2]
theorem filter_two {P : Nat → Bool} {c d : Nat} (hcd : c < d) (hc : P c = true) (hd : P d = true) : ∀ k, (∀ x, x < k → P x = true → x = c ∨ x = d) → (List.range k).filter P = (if c < k then [c] else []) ++ if d < k then [d] else [] := by
  intro k
  induction k with
  | zero => intro _; simp
  | succ k ih =>
    intro h
    rw [List.range_succ, List.filter_append, ih fun x hx => h x (by omega)]
    by_cases e1 : k = c
    · subst e1
      rw [if_neg (by omega), if_neg (by omega), if_pos (by omega), if_neg (by omega)]
      simp [hc]
    · by_cases e2 : k = d
      · subst e2
        rw [if_pos (by omega), if_neg (by omega), if_pos (by omega), if_pos (by omega)]
        simp [hd]
      · have hk : P k = false := by
          cases hp : P k with
          | false => rfl
          | true => have := h k (by omega) hp; omega
        have a1 : (if c < k + 1 then [c] else []) = if c < k then [c] else [] := by
          by_cases h : c < k
          · rw [if_pos h, if_pos (by omega)]
          · rw [if_neg h, if_neg (by omega)]
        have a2 : (if d < k + 1 then [d] else []) = if d < k then [d] else [] := by
          by_cases h : d < k
          · rw [if_pos h, if_pos (by omega)]
          · rw [if_neg h, if_neg (by omega)]
        rw [a1, a2]
        simp [hk]
theorem nr_self {n : Int} {L : List (Int × Int)} (hf : Full n L) {a : Int} (h : Nr n L a a) : False := by
  have h3 := hf.2.1
  rcases h with h | h | h
  · omega
  · have := hf.1.1 _ h; unfold LineP at this; simp only [] at this; omega
  · have := hf.1.1 _ h; unfold LineP at this; simp only [] at this; omega
theorem tips_list {n : Nat} {L : List (Int × Int)} (hf : Full (n : Int) L) {q : Int × Int} (h : q ∈ L) : ∃ c d, Tips n L q c d ∧ (tipsL n L q).length = 2 ∧ otherL n L q = mm c d := by
  obtain ⟨c, d, t⟩ := tips_any hf h
  refine ⟨c, d, t, ?_⟩
  have hl := hf.1.1 _ h
  unfold LineP at hl
  have h3 := hf.2.1
  have hB : ∀ x : Nat, x < n → (tipB n L q x = true ↔ Nr n L x q.1 ∧ Nr n L x q.2) := fun x hx => by
    unfold tipB
    rw [Bool.and_eq_true, decide_eq_true_iff, decide_eq_true_iff, nr_iff h3 hf.1.1 (by omega) (by omega) (by omega) (by omega), nr_iff h3 hf.1.1 (by omega) (by omega) (by omega) (by omega)]
  obtain ⟨c1, c2, d0, d1, d2, ca, cb, da, db⟩ := t
  obtain ⟨cn, rfl⟩ : ∃ k : Nat, c = k := ⟨c.toNat, by omega⟩
  obtain ⟨dn, rfl⟩ : ∃ k : Nat, d = k := ⟨d.toNat, by omega⟩
  have hc : tipB n L q cn = true := (hB cn (by omega)).2 ⟨ca.symm, cb⟩
  have hd : tipB n L q dn = true := (hB dn (by omega)).2 ⟨da, db⟩
  have hone : ∀ x, x < n → tipB n L q x = true → x = cn ∨ x = dn := fun x hx hP => by
    obtain ⟨h1, h2⟩ := (hB x hx).1 hP
    by_cases e1 : (x : Int) = q.1
    · rw [e1] at h1; exact (nr_self hf h1).elim
    · by_cases e2 : (x : Int) = q.2
      · rw [e2] at h2; exact (nr_self hf h2).elim
      · by_cases hin : q.1 < x ∧ (x : Int) < q.2
        · left
          have := tip_in_one hf (by omega) (by omega) hin.1 hin.2 c1 c2 h1.symm h2 ca cb
          omega
        · right
          have := tip_out_one hf (show (q.1, q.2) ∈ L from h) (by omega) (by omega) d0 d1 (by omega) d2 h1 h2 da db
          omega
  have hne : cn ≠ dn := by omega
  unfold otherL
  rcases Nat.lt_or_gt_of_ne hne with hlt | hlt
  · have := filter_two hlt hc hd n hone
    rw [if_pos (by omega), if_pos (by omega)] at this
    have e : tipsL n L q = [cn, dn] := this
    rw [e]
    exact ⟨rfl, rfl⟩
  · have := filter_two hlt hd hc n fun x hx hP => (hone x hx hP).symm
    rw [if_pos (by omega), if_pos (by omega)] at this
    have e : tipsL n L q = [dn, cn] := this
    rw [e]
    refine ⟨rfl, ?_⟩
    show (min (dn : Int) cn, max (dn : Int) cn) = mm cn dn
    unfold mm
    rw [Int.min_comm, Int.max_comm]
theorem take_drop_perm {α : Type} (L : List α) {i : Nat} (hi : i < L.length) : L.Perm (L[i] :: (L.take i ++ L.drop (i + 1))) := by
  conv => lhs; rw [← List.take_append_drop i L, List.drop_eq_getElem_cons hi]
  exact List.perm_middle
theorem flipL_full {n : Nat} {L : List (Int × Int)} (hf : Full (n : Int) L) {i : Nat} (hi : i < L.length) : Full (n : Int) (flipL n L i) ∧ SortedP (flipL n L i) ∧ otherL n L (pth L i) ∉ L ∧ (flipL n L i).Perm (otherL n L (pth L i) :: (L.take i ++ L.drop (i + 1))) := by
  have hq : pth L i ∈ L := by rw [pth_get hi]; exact List.getElem_mem hi
  have hK := take_drop_perm L hi
  rw [← pth_get hi] at hK
  obtain ⟨c, d, t, _, ho⟩ := tips_list hf hq
  have hp : (flipL n L i).Perm (otherL n L (pth L i) :: (L.take i ++ L.drop (i + 1))) := by
    unfold flipL
    refine (sortL_perm _).trans ?_
    rw [← List.append_assoc]
    exact List.perm_append_comm
  have hp' := hp
  rw [ho] at hp'
  have := flip_full hf hK t hp'
  exact ⟨this.1, sortL_sorted _, by rw [ho]; exact this.2, hp⟩
theorem flipL_one {n : Nat} {L M : List (Int × Int)} (hf : Full (n : Int) L) {i : Nat} (hi : i < L.length) {y : Int × Int} (hy : y ≠ pth L i) (hM : M.Perm (y :: (L.take i ++ L.drop (i + 1)))) (hfM : Full (n : Int) M) : y = otherL n L (pth L i) := by
  have hq : pth L i ∈ L := by rw [pth_get hi]; exact List.getElem_mem hi
  have hK := take_drop_perm L hi
  rw [← pth_get hi] at hK
  obtain ⟨c, d, t, _, ho⟩ := tips_list hf hq
  rw [ho]
  exact flip_one hf hK t hM hy hfM
/-- Flipped back. -/
theorem flipL_back {n : Nat} {L : List (Int × Int)} (hf : Full (n : Int) L) (hs : SortedP L) {i j : Nat} (hi : i < L.length) (hj : j < (flipL n L i).length) (hx : pth (flipL n L i) j = otherL n L (pth L i)) : flipL n (flipL n L i) j = L := by
  obtain ⟨f1, f2, f3, f4⟩ := flipL_full hf hi
  have hK := take_drop_perm L hi
  rw [← pth_get hi] at hK
  have hK2 := take_drop_perm (flipL n L i) hj
  rw [← pth_get hj, hx] at hK2
  have hKK : (L.take i ++ L.drop (i + 1)).Perm ((flipL n L i).take j ++ (flipL n L i).drop (j + 1)) := (List.perm_cons _).1 (f4.symm.trans hK2)
  have hne : pth L i ≠ pth (flipL n L i) j := by
    rw [hx]
    intro e
    exact f3 (by rw [← e, pth_get hi]; exact List.getElem_mem hi)
  have := flipL_one f1 hj hne (hK.trans (hKK.cons _)) hf
  have hp := (flipL_full f1 hj).2.2.2
  rw [← this] at hp
  exact (sorted_one hs (flipL_full f1 hj).2.1 ((hK.trans (hKK.cons _)).trans hp.symm)).symm
end
section
open Go Go.RowKit

def sumL : List Int → Int
  | [] => 0
  | x :: xs => x + sumL xs
theorem sumL_append (a b : List Int) : sumL (a ++ b) = sumL a + sumL b := by
  induction a with
  | nil => simp [sumL]
  | cons x a ih => simp only [List.cons_append, sumL, ih]; omega
theorem sumL_perm {a b : List Int} (h : a.Perm b) : sumL a = sumL b := by
  induction h with
  | nil => rfl
  | cons x _ ih => simp only [sumL, ih]
  | swap x y l => simp only [sumL]; omega
  | trans _ _ h1 h2 => rw [h1, h2]
theorem sumL_zero {α : Type} {I : List α} {f : α → Int} (h : ∀ i ∈ I, f i = 0) : sumL (I.map f) = 0 := by
  induction I with
  | nil => rfl
  | cons i I ih => rw [List.map_cons, sumL, h i (by simp), ih fun j hj => h j (by simp [hj])]; rfl
theorem sumL_add {α : Type} (I : List α) (f g : α → Int) : sumL (I.map fun i => f i + g i) = sumL (I.map f) + sumL (I.map g) := by
  induction I with
  | nil => rfl
  | cons i I ih => simp only [List.map_cons, sumL, ih]; omega
theorem sumL_swap {α β : Type} (I : List α) (J : List β) (f : α → β → Int) : sumL (I.map fun i => sumL (J.map fun j => f i j)) = sumL (J.map fun j => sumL (I.map fun i => f i j)) := by
  induction I with
  | nil =>
    simp only [List.map_nil, sumL]
    rw [sumL_zero]
    intros; rfl
  | cons i I ih => simp only [List.map_cons, sumL, ih, sumL_add]
theorem sumL_erase {α : Type} [DecidableEq α] {I : List α} (hn : I.Nodup) {i : α} (f : α → Int) : sumL ((I.erase i).map f) = sumL (I.map fun j => if j = i then 0 else f j) := by
  induction I with
  | nil => rfl
  | cons k I ih =>
    rw [List.nodup_cons] at hn
    by_cases h : k = i
    · subst h
      rw [List.erase_cons_head, List.map_cons, sumL, if_pos rfl, Int.zero_add]
      congr 1
      apply List.map_congr_left
      intro j hj
      rw [if_neg fun e => hn.1 (by rw [← e]; exact hj)]
    · rw [List.erase_cons_tail (by simpa using h), List.map_cons, List.map_cons, sumL, sumL, ih hn.2, if_neg h]
/-- Ways to choose different things for the corners. -/
def ways {α : Type} [DecidableEq α] (has : α → Nat → Bool) : List Nat → List α → Int
  | [], _ => 1
  | c :: cs, I => sumL (I.map fun i => if has i c = true then ways has cs (I.erase i) else 0)
section Ways
variable {α : Type} [DecidableEq α] {has : α → Nat → Bool}
theorem ways_cons (c : Nat) (cs : List Nat) (I : List α) : ways has (c :: cs) I = sumL (I.map fun i => if has i c = true then ways has cs (I.erase i) else 0) := rfl
theorem ways_perm : ∀ (cs : List Nat) {I J : List α}, I.Perm J → ways has cs I = ways has cs J := by
  intro cs
  induction cs with
  | nil => intro I J _; rfl
  | cons c cs ih =>
    intro I J h
    rw [ways_cons, ways_cons]
    have : (I.map fun i => if has i c = true then ways has cs (I.erase i) else 0) = I.map fun i => if has i c = true then ways has cs (J.erase i) else 0 := by
      apply List.map_congr_left
      intro i _
      rw [ih (h.erase i)]
    rw [this]
    exact sumL_perm (h.map _)
theorem ways_two {I : List α} (hn : I.Nodup) (c d : Nat) (cs : List Nat) : ways has (c :: d :: cs) I = sumL (I.map fun i => sumL (I.map fun j => if has i c = true ∧ has j d = true ∧ j ≠ i then ways has cs ((I.erase i).erase j) else 0)) := by
  rw [ways_cons]
  congr 1
  apply List.map_congr_left
  intro i _
  by_cases h : has i c = true
  · rw [if_pos h, ways_cons, sumL_erase hn]
    congr 1
    apply List.map_congr_left
    intro j _
    by_cases e : j = i
    · rw [if_pos e, if_neg fun hh => hh.2.2 e]
    · rw [if_neg e]
      by_cases k : has j d = true
      · rw [if_pos k, if_pos ⟨h, k, e⟩]
      · rw [if_neg k, if_neg fun hh => k hh.2.1]
  · rw [if_neg h, sumL_zero]
    intro j _
    rw [if_neg fun hh => h hh.1]
theorem ways_swap {I : List α} (hn : I.Nodup) (c d : Nat) (cs : List Nat) : ways has (c :: d :: cs) I = ways has (d :: c :: cs) I := by
  rw [ways_two hn, ways_two hn, sumL_swap]
  congr 1
  apply List.map_congr_left
  intro i _
  congr 1
  apply List.map_congr_left
  intro j _
  rw [List.erase_comm]
  by_cases h : has j c = true ∧ has i d = true ∧ i ≠ j
  · rw [if_pos h, if_pos ⟨h.2.1, h.1, fun e => h.2.2 e.symm⟩]
  · rw [if_neg h, if_neg fun hh => h ⟨hh.2.1, hh.1, fun e => hh.2.2 e.symm⟩]
theorem ways_corners {cs ds : List Nat} (h : cs.Perm ds) : ∀ {I : List α}, I.Nodup → ways has cs I = ways has ds I := by
  induction h with
  | nil => intro I _; rfl
  | cons c _ ih =>
    intro I hn
    rw [ways_cons, ways_cons]
    congr 1
    apply List.map_congr_left
    intro i _
    rw [ih (hn.erase i)]
  | swap c d l => intro I hn; exact ways_swap hn d c l
  | trans _ _ h1 h2 => intro I hn; rw [h1 hn, h2 hn]
theorem ways_none : ∀ {cs : List Nat} {t : α} {J : List α}, (∀ c ∈ cs, has t c = false) → t ∉ J → ways has cs (t :: J) = ways has cs J := by
  intro cs
  induction cs with
  | nil => intros; rfl
  | cons c cs ih =>
    intro t J h ht
    rw [ways_cons, List.map_cons, sumL, h c (by simp), if_neg (by decide), Int.zero_add, ways_cons]
    congr 1
    apply List.map_congr_left
    intro i hi
    have hne : t ≠ i := fun e => ht (by rw [e]; exact hi)
    rw [List.erase_cons_tail (by simpa using hne), ih (fun c hc => h c (by simp [hc])) fun hm => ht (List.mem_of_mem_erase hm)]
theorem ways_only {cs : List Nat} {t : α} {J : List α} {x : Nat} (h : has t x = true) (hJ : ∀ j ∈ J, has j x = false) : ways has (x :: cs) (t :: J) = ways has cs J := by
  rw [ways_cons, List.map_cons, sumL, if_pos h, List.erase_cons_head, sumL_zero, Int.add_zero]
  intro j hj
  rw [hJ j hj, if_neg (by decide)]
theorem ways_both {cs : List Nat} {t : α} {J : List α} {y : Nat} (h : has t y = true) (hc : ∀ c ∈ cs, has t c = false) (ht : t ∉ J) : ways has (y :: cs) (t :: J) = ways has cs J + ways has (y :: cs) J := by
  rw [ways_cons, List.map_cons, sumL, if_pos h, List.erase_cons_head, ways_cons]
  congr 2
  apply List.map_congr_left
  intro i hi
  have hne : t ≠ i := fun e => ht (by rw [e]; exact hi)
  rw [List.erase_cons_tail (by simpa using hne), ways_none hc fun hm => ht (List.mem_of_mem_erase hm)]
theorem ways_few : ∀ {cs : List Nat} {I : List α}, I.length < cs.length → ways has cs I = 0 := by
  intro cs
  induction cs with
  | nil => intro I h; simp at h
  | cons c cs ih =>
    intro I h
    rw [ways_cons, sumL_zero]
    intro i hi
    rw [ih (by rw [List.length_erase_of_mem hi]; simp at h; have := List.length_pos_of_mem hi; omega)]
    split <;> rfl
theorem erase_map_inj {β : Type} [DecidableEq β] {f : α → β} : ∀ (J : List α) (i : α), (∀ a ∈ J, f a = f i → a = i) → (J.map f).erase (f i) = (J.erase i).map f := by
  intro J i
  induction J with
  | nil => intro _; rfl
  | cons j J ih =>
    intro hf
    by_cases e : j = i
    · subst e; rw [List.map_cons, List.erase_cons_head, List.erase_cons_head]
    · rw [List.map_cons, List.erase_cons_tail (by simpa using fun h => e (hf _ (by simp) h)), List.erase_cons_tail (by simpa using e), List.map_cons, ih fun a ha => hf a (by simp [ha])]
theorem ways_map {β : Type} [DecidableEq β] {has' : β → Nat → Bool} {f : α → β} {g : Nat → Nat} : ∀ {cs : List Nat} {J : List α}, (∀ a ∈ J, ∀ b ∈ J, f a = f b → a = b) → (∀ c ∈ cs, ∀ j, has' (f j) c = has j (g c)) → ways has' cs (J.map f) = ways has (cs.map g) J := by
  intro cs
  induction cs with
  | nil => intros; rfl
  | cons c cs ih =>
    intro J hf h
    rw [List.map_cons, ways_cons, ways_cons, List.map_map]
    congr 1
    apply List.map_congr_left
    intro i hi
    simp only [Function.comp]
    rw [h c (by simp) i, erase_map_inj J i (fun a ha => hf a ha i hi), ih (fun a ha b hb => hf a (List.mem_of_mem_erase ha) b (List.mem_of_mem_erase hb)) fun c hc j => h c (by simp [hc]) j]
theorem ways_congr {has' : α → Nat → Bool} : ∀ {cs : List Nat} {J : List α}, (∀ c ∈ cs, ∀ j ∈ J, has j c = has' j c) → ways has cs J = ways has' cs J := by
  intro cs
  induction cs with
  | nil => intros; rfl
  | cons c cs ih =>
    intro J h
    rw [ways_cons, ways_cons]
    congr 1
    apply List.map_congr_left
    intro i hi
    rw [h c (by simp) i hi, ih fun c hc j hj => h c (by simp [hc]) j (List.mem_of_mem_erase hj)]
end Ways
def hasB (t : Tri) (c : Nat) : Bool := decide (hasC t c)
/-- Strictly between i and k, around. -/
def Btw (i k c : Nat) : Prop := if i < k then i < c ∧ c < k else i < c ∨ c < k
instance (i k c : Nat) : Decidable (Btw i k c) := by unfold Btw; infer_instance
def canon (n i k : Nat) : List Nat := (List.range n).filter fun c => decide (Btw i k c)
theorem mem_canon {n i k c : Nat} : c ∈ canon n i k ↔ c < n ∧ Btw i k c := by simp [canon]
theorem nodup_canon (n i k : Nat) : (canon n i k).Nodup := List.nodup_range.filter _
theorem canon_perm {n i k : Nat} {cs : List Nat} (hn : cs.Nodup) (h : ∀ c, c ∈ cs ↔ c < n ∧ Btw i k c) : cs.Perm (canon n i k) :=
  (List.perm_ext_iff_of_nodup hn (nodup_canon _ _ _)).2 fun c => by rw [h, mem_canon]
/-- The number between two corners, in any order. -/
def eE (R : List Int) (i k : Nat) : Int := eD R (min i k) (max i k - min i k)
theorem eE_le (R : List Int) {i k : Nat} (h : i ≤ k) : eE R i k = eD R i (k - i) := by unfold eE; rw [Nat.min_eq_left h, Nat.max_eq_right h]
theorem eE_comm (R : List Int) (i k : Nat) : eE R i k = eE R k i := by unfold eE; rw [Nat.min_comm, Nat.max_comm]
theorem eE_self (R : List Int) (i : Nat) : eE R i i = 0 := by rw [eE_le R (Nat.le_refl _), Nat.sub_self]; rfl
theorem eE_det (R : List Int) {i k : Nat} (h : i ≤ k) : eE R i k = det (VV R i) (VV R k) := by rw [eE_le R h, eD_det, show i + (k - i) = k by omega]
theorem eD_any {n : Nat} {R : List Int} {v : Nat → Int × Int} (hl : R.length = n) (hnx : ∀ i, i + 1 < n → det (v i) (v (i + 1)) = 1) (hmid : ∀ j, 0 < j → j + 1 < n → (v (j - 1)).1 + (v (j + 1)).1 = nth R j * (v j).1 ∧ (v (j - 1)).2 + (v (j + 1)).2 = nth R j * (v j).2) (i : Nat) : ∀ d, i + d < n → eD R i d = det (v i) (v (i + d)) := by
  intro d
  induction d using Nat.strongRecOn with
  | _ d ih =>
    intro hd
    match d with
    | 0 => rw [eD, Nat.add_zero, det_self]
    | 1 => rw [eD]; exact (hnx i hd).symm
    | d + 2 =>
      rw [eD, ih (d + 1) (by omega) (by omega), ih d (by omega) (by omega), hl, Nat.mod_eq_of_lt (by omega)]
      have hm := hmid (i + d + 1) (by omega) (by omega)
      rw [Nat.add_sub_cancel] at hm
      rw [show i + (d + 2) = i + d + 1 + 1 by omega, show i + (d + 1) = i + d + 1 by omega]
      unfold det
      grind
theorem VV_mid (R : List Int) {j : Nat} (h0 : 0 < j) (h1 : j < R.length) : (VV R (j - 1)).1 + (VV R (j + 1)).1 = nth R j * (VV R j).1 ∧ (VV R (j - 1)).2 + (VV R (j + 1)).2 = nth R j * (VV R j).2 := by
  obtain ⟨k, rfl⟩ : ∃ k, j = k + 1 := ⟨j - 1, by omega⟩
  rw [Nat.add_sub_cancel, VV_two, Nat.mod_eq_of_lt h1]
  simp only []
  constructor <;> omega
/-- Without an ear inside, the numbers between the other corners stay. -/
theorem eE_cut {m : Nat} {L : List (Int × Int)} {x : Nat} (hf : Full ((m + 4 : Nat) : Int) L) (hb : Bare L x) (x0 : 0 < x) (x1 : x + 1 < m + 4) {i k : Nat} (hi : i < m + 4) (hk : k < m + 4) (hix : i ≠ x) (hkx : k ≠ x) :
    eE (roundL (m + 4) L) i k = eE (roundL (m + 3) (cutB ((m + 4 : Nat) : Int) x L)) (shN x i) (shN x k) := by
  have key : ∀ i k, i ≤ k → i < m + 4 → k < m + 4 → i ≠ x → k ≠ x → eE (roundL (m + 4) L) i k = eE (roundL (m + 3) (cutB ((m + 4 : Nat) : Int) x L)) (shN x i) (shN x k) := by
    intro i k hik hi hk hix hkx
    have hear := (hf.ear (by omega) hb (by omega) (by omega)).2
    rw [show ((m + 4 : Nat) : Int) - 1 = ((m + 3 : Nat) : Int) by omega] at hear
    have hr := fun c => round_cut hf hb (by omega) (by omega) c
    rw [show m + 4 - 1 = m + 3 by omega] at hr
    have hex : ex ((m + 4 : Nat) : Int) x = ((x : Int) - 1, (x : Int) + 1) := by unfold ex; rw [if_neg (by omega), if_neg (by omega)]
    rw [hex] at hr
    simp only [] at hr
    have hl1 := (nth_round hf).1
    have hl2 := (nth_round hear).1
    generalize roundL (m + 4) L = R at *
    generalize roundL (m + 3) (cutB ((m + 4 : Nat) : Int) x L) = R' at *
    have hmid := fun j (h0 : 0 < j) (h1 : j < m + 4) => VV_mid R h0 (by omega)
    have hone := VV_one R
    have hxx := hmid x x0 (by omega)
    rw [show nth R x = 1 by rw [hr, if_pos rfl]] at hxx
    obtain ⟨v, hv⟩ : ∃ v : Nat → Int × Int, v = fun j => VV R (liN x j) := ⟨_, rfl⟩
    have va : ∀ j, j < x → v j = VV R j := fun j hj => by rw [hv]; simp only [liN, if_pos hj]
    have vb : ∀ j, x ≤ j → v j = VV R (j + 1) := fun j hj => by rw [hv]; simp only [liN]; rw [if_neg (by omega)]
    have ra : nth R (x - 1) = nth R' (x - 1) + 1 := by rw [hr, if_neg (by omega), if_pos (by omega), show shN x (x - 1) = x - 1 by unfold shN; rw [if_pos (by omega)]]
    have rb : nth R (x + 1) = nth R' x + 1 := by rw [hr, if_neg (by omega), if_pos (by omega), show shN x (x + 1) = x by unfold shN; rw [if_neg (by omega)]; omega]
    have rl : ∀ c, c + 1 < x → nth R c = nth R' c := fun c hc => by rw [hr, if_neg (by omega), if_neg (by omega), show shN x c = c by unfold shN; rw [if_pos (by omega)], Int.add_zero]
    have rg : ∀ c, x < c → nth R (c + 1) = nth R' c := fun c hc => by rw [hr, if_neg (by omega), if_neg (by omega), show shN x (c + 1) = c by unfold shN; rw [if_neg (by omega)]; omega, Int.add_zero]
    have hnx : ∀ j, j + 1 < m + 3 → det (v j) (v (j + 1)) = 1 := by
      intro j hj
      by_cases c1 : j + 1 < x
      · rw [va j (by omega), va _ c1]; exact hone j
      · by_cases c2 : j + 1 = x
        · have h1 := hone j
          rw [← c2, Nat.add_sub_cancel] at hxx
          rw [va j (by omega), vb _ (by omega), c2, ← c2]
          unfold det at *
          grind
        · rw [vb j (by omega), vb _ (by omega)]; exact hone (j + 1)
    have hmd : ∀ j, 0 < j → j + 1 < m + 3 → (v (j - 1)).1 + (v (j + 1)).1 = nth R' j * (v j).1 ∧ (v (j - 1)).2 + (v (j + 1)).2 = nth R' j * (v j).2 := by
      intro j h0 h1
      by_cases c1 : j + 1 < x
      · rw [va (j - 1) (by omega), va (j + 1) c1, va j (by omega), ← rl j c1]; exact hmid j h0 (by omega)
      · by_cases c2 : j + 1 = x
        · have hm := hmid j h0 (by omega)
          subst c2
          rw [Nat.add_sub_cancel] at ra hxx
          rw [va (j - 1) (by omega), vb (j + 1) (by omega), va j (by omega)]
          rw [ra] at hm
          constructor <;> grind
        · by_cases c3 : j = x
          · subst c3
            have hm := hmid (j + 1) (by omega) (by omega)
            rw [Nat.add_sub_cancel] at hm
            rw [va (j - 1) (by omega), vb (j + 1) (by omega), vb j (by omega)]
            rw [rb] at hm
            constructor <;> grind
          · have hm := hmid (j + 1) (by omega) (by omega)
            rw [Nat.add_sub_cancel] at hm
            rw [vb (j - 1) (by omega), vb (j + 1) (by omega), vb j (by omega), ← rg j (by omega), show j - 1 + 1 = j by omega]
            exact hm
    have hs : shN x i ≤ shN x k := by unfold shN; split <;> split <;> omega
    have hk3 : shN x k < m + 3 := by unfold shN; split <;> omega
    rw [eE_le R' hs, eD_any (n := m + 3) (v := v) (by omega) hnx hmd _ _ (by omega), show shN x i + (shN x k - shN x i) = shN x k by omega, hv]
    simp only []
    rw [liN_shN hix, liN_shN hkx, eE_det R hik]
  rcases Nat.le_total i k with h | h
  · exact key i k h hi hk hix hkx
  · rw [eE_comm, eE_comm _ (shN x i)]; exact key k i h hk hi hkx hix
/-- An ear has the sum of its neighbours. -/
theorem eE_ear {R : List Int} {x k : Nat} (x0 : 0 < x) (x1 : x + 1 < R.length) (h1 : nth R x = 1) (hk : k ≠ x) : eE R x k = eE R (x - 1) k + eE R (x + 1) k := by
  have hm := VV_mid R x0 (by omega)
  rw [h1] at hm
  rcases Nat.lt_or_gt_of_ne hk with h | h
  · rw [eE_comm R x, eE_comm R (x - 1), eE_comm R (x + 1), eE_det R (by omega), eE_det R (by omega), eE_det R (by omega)]
    unfold det
    grind
  · rw [eE_det R (by omega), eE_det R (by omega), eE_det R (by omega)]
    unfold det
    grind
theorem liT_inj {x : Nat} (a b : Tri) (h : liT x a = liT x b) : a = b := by
  have e : ∀ p q, liN x p = liN x q → p = q := fun p q h => by rw [← shN_liN x p, h, shN_liN]
  unfold liT at h
  simp only [Prod.mk.injEq] at h
  exact Prod.ext (e _ _ h.1) (Prod.ext (e _ _ h.2.1) (e _ _ h.2.2))
theorem map_canon {n x i k : Nat} {cs : List Nat} (hn : cs.Nodup) (hx : x ∉ cs) (h : ∀ c, c ≠ x → (c ∈ cs ↔ c < n + 1 ∧ Btw (liN x i) (liN x k) c)) (hxn : x < n + 1) : (cs.map (shN x)).Perm (canon n i k) := by
  refine canon_perm ?_ fun c => ?_
  · refine nodup_map_on hn fun a ha b hb e => ?_
    rw [← liN_shN (x := x) (k := a) fun e => hx (by rw [← e]; exact ha), e, liN_shN fun e => hx (by rw [← e]; exact hb)]
  · rw [List.mem_map]
    constructor
    · rintro ⟨a, ha, rfl⟩
      have hax : a ≠ x := fun e => hx (by rw [← e]; exact ha)
      obtain ⟨h1, h2⟩ := (h a hax).1 ha
      refine ⟨by unfold shN; split <;> omega, ?_⟩
      unfold Btw liN at *
      unfold shN
      (repeat' split at h2) <;> (repeat' split) <;> omega
    · rintro ⟨h1, h2⟩
      refine ⟨liN x c, (h _ (liN_ne x c)).2 ⟨by unfold liN; split <;> omega, ?_⟩, shN_liN x c⟩
      unfold Btw liN at *
      (repeat' split at h2) <;> (repeat' split) <;> omega
/-- The ways to choose triangles between two corners are the number between them, on both sides. -/
theorem broline : ∀ (m : Nat) {L : List (Int × Int)}, Full ((m + 3 : Nat) : Int) L → ∀ i k, i < m + 3 → k < m + 3 → i ≠ k → ways hasB (canon (m + 3) i k) (tris (m + 3) L) = eE (roundL (m + 3) L) i k := by
  intro m
  induction m with
  | zero =>
    intro L h i k hi hk hik
    rw [full_three h]
    have : (i = 0 ∧ k = 1) ∨ (i = 0 ∧ k = 2) ∨ (i = 1 ∧ k = 0) ∨ (i = 1 ∧ k = 2) ∨ (i = 2 ∧ k = 0) ∨ (i = 2 ∧ k = 1) := by omega
    rcases this with ⟨rfl, rfl⟩ | ⟨rfl, rfl⟩ | ⟨rfl, rfl⟩ | ⟨rfl, rfl⟩ | ⟨rfl, rfl⟩ | ⟨rfl, rfl⟩ <;> decide
  | succ m ih =>
    intro L h i k hi hk hik
    rw [show m + 1 + 3 = m + 4 by omega] at h hi hk ⊢
    obtain ⟨x, x0, x1, hb⟩ := bare_in h
    have hear := (h.ear (by omega) hb (by omega) (by omega)).2
    rw [show ((m + 4 : Nat) : Int) - 1 = ((m + 3 : Nat) : Int) by omega] at hear
    have hp := tris_cut h hb (by omega) (by omega)
    rw [show m + 4 - 1 = m + 3 by omega] at hp
    have hxt : xT (m + 4) x = (x - 1, x, x + 1) := by unfold xT; rw [if_neg (by omega), if_neg (by omega)]
    rw [hxt] at hp
    have hnd := nodup_tris (m + 4) L
    have hnd2 := hp.nodup_iff.1 hnd
    rw [List.nodup_cons] at hnd2
    have hlen := tris_length m hear
    have hndT := nodup_tris (m + 3) (cutB ((m + 4 : Nat) : Int) x L)
    have hcut := fun i k hi hk hix hkx => eE_cut h hb x0 x1 (i := i) (k := k) hi hk hix hkx
    have hr1 : nth (roundL (m + 4) L) x = 1 := by rw [round_cut h hb (by omega) (by omega), if_pos rfl]
    have hrl := (nth_round h).1
    have IH := fun i k hi hk hik => ih hear i k hi hk hik
    generalize tris (m + 4) L = T at *
    generalize tris (m + 3) (cutB ((m + 4 : Nat) : Int) x L) = T' at *
    generalize roundL (m + 4) L = R at *
    generalize roundL (m + 3) (cutB ((m + 4 : Nat) : Int) x L) = R' at *
    have hJx : ∀ j ∈ T'.map (liT x), hasB j x = false := fun j hj => by
      obtain ⟨a, _, rfl⟩ := List.mem_map.1 hj
      unfold hasB
      rw [decide_eq_false hasC_x]
    have hrel : ∀ cs : List Nat, x ∉ cs → ways hasB cs (T'.map (liT x)) = ways hasB (cs.map (shN x)) T' := fun cs hx =>
      ways_map (fun a _ b _ => liT_inj (x := x) a b) fun c hc j => by
        unfold hasB
        exact decide_eq_decide.2 (hasC_li fun e => hx (by rw [← e]; exact hc))
    -- between two corners of the smaller one
    have hsmall : ∀ (cs : List Nat) (a b : Nat), cs.Nodup → x ∉ cs → a < m + 4 → b < m + 4 → a ≠ x → b ≠ x → a ≠ b → (∀ c, c ≠ x → (c ∈ cs ↔ c < m + 4 ∧ Btw a b c)) → ways hasB cs (T'.map (liT x)) = eE R a b := by
      intro cs a b hn hx ha hb hax hbx hab hm
      rw [hrel cs hx, hcut a b ha hb hax hbx, ← IH (shN x a) (shN x b) (by unfold shN; split <;> omega) (by unfold shN; split <;> omega) (by unfold shN; split <;> split <;> omega)]
      refine ways_corners (map_canon hn hx (fun c hc => ?_) (by omega)) hndT
      rw [liN_shN hax, liN_shN hbx]
      exact hm c hc
    rw [ways_perm _ hp]
    have hC : ∀ c, hasB (x - 1, x, x + 1) c = true ↔ c = x - 1 ∨ c = x ∨ c = x + 1 := fun c => by
      unfold hasB; rw [decide_eq_true_iff]; unfold hasC; simp only []; omega
    have hCf : ∀ c, c ≠ x - 1 → c ≠ x → c ≠ x + 1 → hasB (x - 1, x, x + 1) c = false := fun c h1 h2 h3 => by
      cases hh : hasB (x - 1, x, x + 1) c with
      | false => rfl
      | true => have := (hC c).1 hh; omega
    have hndJ : ((x - 1, x, x + 1) :: T'.map (liT x)).Nodup := List.nodup_cons.2 hnd2
    by_cases hix : i = x
    · subst hix
      rw [eE_ear x0 (by omega) hr1 (Ne.symm hik)]
      by_cases hk1 : k = i + 1
      · have e : canon (m + 4) i k = [] := by
          rw [List.eq_nil_iff_forall_not_mem]
          intro c hc
          have := (mem_canon.1 hc).2
          unfold Btw at this
          split at this <;> omega
        have hi1 := eE_ear (R := R) x0 (by omega) hr1 (k := k) (by omega)
        rw [e, ← hi1, eE_le R (by omega), show k - i = 1 by omega]
        rfl
      · have hp1 : (canon (m + 4) i k).Perm ((i + 1) :: canon (m + 4) (i + 1) k) := by
          refine ((canon_perm ?_ fun c => ?_).symm)
          · refine List.nodup_cons.2 ⟨fun hm => ?_, nodup_canon _ _ _⟩
            have := (mem_canon.1 hm).2
            unfold Btw at this
            split at this <;> omega
          · rw [List.mem_cons, mem_canon]
            unfold Btw
            split <;> split <;> omega
        have hnd1 := hp1.nodup_iff.1 (nodup_canon _ _ _)
        rw [ways_corners hp1 hndJ, ways_both ((hC _).2 (by omega)) (fun c hc => by
          have := (mem_canon.1 hc)
          unfold Btw at this
          refine hCf c ?_ ?_ ?_ <;> (intro e; split at this <;> omega)) hnd2.1]
        have hx1 : i ∉ canon (m + 4) (i + 1) k := fun hm => by
          have := (mem_canon.1 hm).2
          unfold Btw at this
          split at this <;> omega
        rw [hsmall (canon (m + 4) (i + 1) k) (i + 1) k (nodup_canon _ _ _) hx1 (by omega) hk (by omega) (by omega) (by omega) fun c _ => mem_canon]
        have hx2 : i ∉ (i + 1) :: canon (m + 4) (i + 1) k := fun hm => by
          rcases List.mem_cons.1 hm with h | h
          · omega
          · exact hx1 h
        by_cases hk2 : k = i - 1
        · rw [ways_few, hk2, eE_self]
          · omega
          · have hl1 := hp1.length_eq
            have hpr : (canon (m + 4) i k).Perm (((List.range (m + 4)).erase i).erase (i - 1)) := by
              refine (canon_perm ((List.nodup_range.erase _).erase _) fun c => ?_).symm
              rw [(List.nodup_range.erase _).mem_erase_iff, List.nodup_range.mem_erase_iff, List.mem_range]
              unfold Btw
              split <;> omega
            rw [← hl1, hpr.length_eq, List.length_erase_of_mem, List.length_erase_of_mem, List.length_range, List.length_map, hlen]
            · omega
            · exact List.mem_range.2 (by omega)
            · rw [List.nodup_range.mem_erase_iff]; exact ⟨by omega, List.mem_range.2 (by omega)⟩
        · rw [hsmall _ (i - 1) k hnd1 hx2 (by omega) hk (by omega) (by omega) (by omega) fun c hc => ?_]
          · omega
          · rw [← hp1.mem_iff, mem_canon]
            unfold Btw
            split <;> split <;> omega
    · by_cases hkx : k = x
      · subst hkx
        rw [eE_comm, eE_ear x0 (by omega) hr1 hix]
        by_cases hk1 : i = k - 1
        · have e : canon (m + 4) i k = [] := by
            rw [List.eq_nil_iff_forall_not_mem]
            intro c hc
            have := (mem_canon.1 hc).2
            unfold Btw at this
            split at this <;> omega
          have hi1 := eE_ear (R := R) x0 (by omega) hr1 (k := i) hix
          rw [e, ← hi1, eE_comm, eE_le R (by omega), show k - i = 1 by omega]
          rfl
        · have hp1 : (canon (m + 4) i k).Perm ((k - 1) :: canon (m + 4) i (k - 1)) := by
            refine ((canon_perm ?_ fun c => ?_).symm)
            · refine List.nodup_cons.2 ⟨fun hm => ?_, nodup_canon _ _ _⟩
              have := (mem_canon.1 hm).2
              unfold Btw at this
              split at this <;> omega
            · rw [List.mem_cons, mem_canon]
              unfold Btw
              split <;> split <;> omega
          have hnd1 := hp1.nodup_iff.1 (nodup_canon _ _ _)
          rw [ways_corners hp1 hndJ, ways_both ((hC _).2 (by omega)) (fun c hc => by
            have := (mem_canon.1 hc)
            unfold Btw at this
            refine hCf c ?_ ?_ ?_ <;> (intro e; split at this <;> omega)) hnd2.1]
          have hx1 : k ∉ canon (m + 4) i (k - 1) := fun hm => by
            have := (mem_canon.1 hm).2
            unfold Btw at this
            split at this <;> omega
          rw [hsmall (canon (m + 4) i (k - 1)) i (k - 1) (nodup_canon _ _ _) hx1 hi (by omega) hix (by omega) hk1 fun c _ => mem_canon]
          have hx2 : k ∉ (k - 1) :: canon (m + 4) i (k - 1) := fun hm => by
            rcases List.mem_cons.1 hm with h | h
            · omega
            · exact hx1 h
          rw [eE_comm R i (k - 1)]
          by_cases hk2 : i = k + 1
          · rw [ways_few, hk2, eE_self]
            · have hl1 := hp1.length_eq
              have hpr : (canon (m + 4) i k).Perm (((List.range (m + 4)).erase k).erase (k + 1)) := by
                refine (canon_perm ((List.nodup_range.erase _).erase _) fun c => ?_).symm
                rw [(List.nodup_range.erase _).mem_erase_iff, List.nodup_range.mem_erase_iff, List.mem_range]
                unfold Btw
                split <;> omega
              rw [← hl1, hpr.length_eq, List.length_erase_of_mem, List.length_erase_of_mem, List.length_range, List.length_map, hlen]
              · omega
              · exact List.mem_range.2 (by omega)
              · rw [List.nodup_range.mem_erase_iff]; exact ⟨by omega, List.mem_range.2 (by omega)⟩
          · rw [hsmall _ i (k + 1) hnd1 hx2 hi (by omega) hix (by omega) hk2 fun c hc => ?_, eE_comm R i (k + 1)]
            rw [← hp1.mem_iff, mem_canon]
            unfold Btw
            split <;> split <;> omega
      · by_cases hxm : x ∈ canon (m + 4) i k
        · have hp1 := List.perm_cons_erase hxm
          have hx1 : x ∉ (canon (m + 4) i k).erase x := fun hm => ((nodup_canon (m + 4) i k).mem_erase_iff.1 hm).1 rfl
          rw [ways_corners hp1 hndJ, ways_only ((hC _).2 (by omega)) hJx]
          exact hsmall _ i k ((nodup_canon _ _ _).erase _) hx1 hi hk hix hkx hik fun c hc => by
            rw [(nodup_canon (m + 4) i k).mem_erase_iff, mem_canon]
            exact ⟨fun h => h.2, fun h => ⟨hc, h⟩⟩
        · rw [ways_none (fun c hc => ?_) hnd2.1]
          · exact hsmall _ i k (nodup_canon _ _ _) hxm hi hk hix hkx hik fun c _ => mem_canon
          · have h1 := mem_canon.1 hc
            have h2 : ¬ Btw i k x := fun hB => hxm (mem_canon.2 ⟨by omega, hB⟩)
            unfold Btw at h1 h2
            refine hCf c ?_ ?_ ?_ <;> (intro e; split at h1 <;> split at h2 <;> omega)
theorem and_pw {u i : Nat} : u &&& pw i = 0 ↔ u.testBit i = false := by
  unfold pw
  constructor
  · intro h
    have := congrArg (fun v => Nat.testBit v i) h
    simp [Nat.testBit_and] at this
    exact this
  · intro h
    apply Nat.eq_of_testBit_eq
    intro j
    rw [Nat.testBit_and, Nat.zero_testBit, Nat.testBit_two_pow]
    by_cases e : i = j
    · subst e; simp [h]
    · simp [e]
theorem or_pw {u i j : Nat} : (u ||| pw i) &&& pw j = 0 ↔ u &&& pw j = 0 ∧ j ≠ i := by
  rw [and_pw, and_pw, Nat.testBit_or]
  unfold pw
  rw [Nat.testBit_two_pow]
  by_cases e : i = j
  · subst e; simp
  · simp [e, Ne.symm e]
theorem sumTo_sumL (f : Nat → Int) : ∀ q, sumTo f q = sumL ((List.range q).map f) := by
  intro q
  induction q with
  | zero => rfl
  | succ q ih => rw [sumTo, ih, List.range_succ, List.map_append, sumL_append]; simp [sumL]
theorem sumL_filter {α : Type} (p : α → Bool) (g : α → Int) (I : List α) : sumL ((I.filter p).map g) = sumL (I.map fun i => if p i = true then g i else 0) := by
  induction I with
  | nil => rfl
  | cons i I ih =>
    rw [List.map_cons, sumL]
    cases h : p i with
    | true => rw [List.filter_cons_of_pos h, List.map_cons, sumL, ih, if_pos rfl]
    | false => rw [List.filter_cons_of_neg (by simp [h]), ih, if_neg (by decide), Int.zero_add]
def freeI (q u : Nat) : List Nat := (List.range q).filter fun i => decide (u &&& pw i = 0)
theorem mem_freeI {q u i : Nat} : i ∈ freeI q u ↔ i < q ∧ u &&& pw i = 0 := by simp [freeI]
theorem nodup_freeI (q u : Nat) : (freeI q u).Nodup := List.nodup_range.filter _
theorem choF_free (T : List Tri) : ∀ (cs : List Nat) (u : Nat), choF T cs u = ways (fun i c => hasB (tth T i) c) cs (freeI T.length u) := by
  intro cs
  induction cs with
  | nil => intro u; rfl
  | cons c cs ih =>
    intro u
    rw [choF_cons, sumTo_sumL, ways_cons, freeI, sumL_filter]
    congr 1
    apply List.map_congr_left
    intro i hi
    by_cases h : u &&& pw i = 0
    · rw [decide_eq_true h, if_pos rfl]
      by_cases k : hasC (tth T i) c
      · rw [if_pos ⟨h, k⟩, if_pos (by unfold hasB; exact decide_eq_true k), ih]
        refine ways_perm _ ((List.perm_ext_iff_of_nodup (nodup_freeI _ _) ((nodup_freeI _ u).erase _)).2 fun j => ?_)
        rw [(nodup_freeI _ _).mem_erase_iff, mem_freeI, mem_freeI, or_pw]
        constructor
        · rintro ⟨a, b, c⟩; exact ⟨c, a, b⟩
        · rintro ⟨c, a, b⟩; exact ⟨a, b, c⟩
      · rw [if_neg fun hh => k hh.2, if_neg (by unfold hasB; simpa using k)]
    · rw [if_neg fun hh => h hh.1, decide_eq_false h, if_neg (by decide)]
theorem tth_map (T : List Tri) : (List.range T.length).map (tth T) = T := by
  apply List.ext_getElem
  · simp
  · intro i h1 h2
    simp [tth, h2]
theorem choF_ways {T : List Tri} (hn : T.Nodup) (cs : List Nat) : choF T cs 0 = ways hasB cs T := by
  rw [choF_free]
  have e : freeI T.length 0 = List.range T.length := by
    unfold freeI
    rw [List.filter_eq_self]
    intro i _
    simp
  rw [e]
  have := ways_map (has := fun i c => hasB (tth T i) c) (has' := hasB) (f := tth T) (g := id) (cs := cs) (J := List.range T.length) (fun a ha b hb hab => by
    have ha' := List.mem_range.1 ha
    have hb' := List.mem_range.1 hb
    unfold tth at hab
    rw [List.getD_eq_getElem?_getD, List.getD_eq_getElem?_getD, List.getElem?_eq_getElem ha', List.getElem?_eq_getElem hb'] at hab
    exact (List.getElem_inj hn).1 hab) (fun c _ j => rfl)
  rw [tth_map, List.map_id] at this
  exact this.symm
theorem btw_iff {i k c : Nat} (hik : i ≠ k) : Btw i k c ↔ (i < k ∧ i < c ∧ c < k) ∨ (k < i ∧ (i < c ∨ c < k)) := by
  unfold Btw
  split <;> omega
theorem btw_perm {n i k : Nat} (hi : i < n) (hk : k < n) (hik : i ≠ k) : (btw n i k).Perm (canon n i k) := by
  obtain ⟨t, ht⟩ : ∃ t, t = (k + n - i - 1) % n := ⟨_, rfl⟩
  have e : (i < k ∧ t = k - i - 1) ∨ (k < i ∧ t = k + n - i - 1) := by
    rw [ht, mod_small (by omega)]
    split <;> omega
  have hcor : ∀ s, s < t → (i + 1 + s < n ∧ cor n i s = i + 1 + s) ∨ (n ≤ i + 1 + s ∧ cor n i s = i + 1 + s - n) := by
    intro s hs
    unfold cor
    rw [mod_small (by omega)]
    split
    · left; exact ⟨by assumption, rfl⟩
    · right; exact ⟨by omega, rfl⟩
  refine canon_perm ?_ fun c => ?_
  · unfold btw btwT
    rw [← ht]
    refine nodup_map_on List.nodup_range fun a ha b hb hab => ?_
    rw [List.mem_range] at ha hb
    have h1 := hcor a ha
    have h2 := hcor b hb
    omega
  · unfold btw btwT
    rw [← ht, List.mem_map, btw_iff hik]
    constructor
    · rintro ⟨s, hs, rfl⟩
      rw [List.mem_range] at hs
      have := hcor s hs
      omega
    · rintro ⟨h1, h2⟩
      by_cases hc : i < c
      · refine ⟨c - i - 1, List.mem_range.2 (by omega), ?_⟩
        have := hcor (c - i - 1) (by omega)
        omega
      · refine ⟨c + n - i - 1, List.mem_range.2 (by omega), ?_⟩
        have := hcor (c + n - i - 1) (by omega)
        omega
theorem choices_between {m : Nat} {L : List (Int × Int)} (h : Full ((m + 3 : Nat) : Int) L) {i k : Nat} (hi : i < m + 3) (hk : k < m + 3) (hik : i ≠ k) : choF (tris (m + 3) L) (btw (m + 3) i k) 0 = eE (roundL (m + 3) L) i k := by
  rw [choF_ways (nodup_tris _ _), ways_corners (btw_perm hi hk hik) (nodup_tris _ _), broline m h i k hi hk hik]
end
end Go.Proofs.Ytkbdclladfjmcaa
