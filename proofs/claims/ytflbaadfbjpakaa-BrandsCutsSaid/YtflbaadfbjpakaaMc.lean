/- Layer 2: the mathematics of brands (M7 M8). -/
import Derived.Test.YtflbaadfbjpakaaMb
namespace Go.Proofs.Ytflbaadfbjpakaa
open Go Go.RowKit

/-- One step of the numbers between corners: the last one and the one now. -/
def stp (s : Int × Int) (a : Int) : Int × Int := (s.2, a * s.2 - s.1)
def rn (r : List Int) (s : Int × Int) : Int × Int := r.foldl stp s
theorem rn_cons (a : Int) (r : List Int) (s : Int × Int) : rn (a :: r) s = rn r (stp s a) := rfl
theorem rn_append (a b : List Int) (s : Int × Int) : rn (a ++ b) s = rn b (rn a s) := by unfold rn; rw [List.foldl_append]
/-- A multiple. -/
def mulV (e : Int) (s : Int × Int) : Int × Int := (e * s.1, e * s.2)
theorem stp_mul (e : Int) (s : Int × Int) (a : Int) : stp (mulV e s) a = mulV e (stp s a) := by unfold stp mulV; simp only [Prod.mk.injEq]; constructor <;> grind
theorem rn_mul (e : Int) : ∀ (r : List Int) (s : Int × Int), rn r (mulV e s) = mulV e (rn r s) := by
  intro r
  induction r with
  | nil => intro s; rfl
  | cons a r ih => intro s; rw [rn_cons, rn_cons, stp_mul, ih]
theorem rn_onto : ∀ (r : List Int) (s : Int × Int), ∃ t, rn r t = s := by
  intro r
  induction r with
  | nil => intro s; exact ⟨s, rfl⟩
  | cons a r ih =>
    intro s
    obtain ⟨t, ht⟩ := ih s
    refine ⟨(a * t.1 - t.2, t.1), ?_⟩
    rw [rn_cons, ← ht]
    congr 1
    unfold stp
    simp only []
    exact Prod.ext rfl (by simp only []; omega)
/-- Once around multiplies by e. -/
def Eps (e : Int) (r : List Int) : Prop := ∀ s, rn r s = mulV e s
theorem Eps.rot {e : Int} {a b : List Int} (h : Eps e (a ++ b)) : Eps e (b ++ a) := by
  intro s
  obtain ⟨t, rfl⟩ := rn_onto a s
  have := h t
  rw [rn_append] at this
  rw [rn_append, this, rn_mul]
/-- What is left of 3 at each. -/
def left3 : List Int → Int
  | [] => 0
  | a :: r => 3 - a + left3 r
theorem left3_append (a b : List Int) : left3 (a ++ b) = left3 a + left3 b := by
  induction a with
  | nil => simp [left3]
  | cons x a ih => simp only [List.cons_append, left3, ih]; omega
theorem no_growth {e : Int} {r : List Int} (h : Eps e r) (h0 : r ≠ []) : ∃ a ∈ r, a < 2 := by
  refine Classical.byContradiction fun hn => ?_
  have hall : ∀ a ∈ r, 2 ≤ a := fun a ha => Classical.byContradiction fun h => hn ⟨a, ha, by omega⟩
  have grow : ∀ (r : List Int) (s : Int × Int), (∀ a ∈ r, 2 ≤ a) → 0 ≤ s.1 → s.1 < s.2 → s.1 ≤ (rn r s).1 ∧ 0 ≤ (rn r s).1 ∧ (r ≠ [] → s.1 < (rn r s).1) := by
    intro r
    induction r with
    | nil => intro s _ h1 _; exact ⟨Int.le_refl _, h1, fun h => absurd rfl h⟩
    | cons a r ih =>
      intro s ha h1 h2
      have ha2 := ha a (by simp)
      have hp : 2 * s.2 ≤ a * s.2 := Int.mul_le_mul_of_nonneg_right ha2 (by omega)
      have := ih (stp s a) (fun x hx => ha x (List.mem_cons_of_mem _ hx)) (by unfold stp; simp only []; omega) (by unfold stp; simp only []; omega)
      rw [rn_cons]
      unfold stp at this ⊢
      simp only [] at this ⊢
      exact ⟨by omega, by omega, fun _ => by omega⟩
  have g := grow r (0, 1) hall (by decide) (by decide)
  have he := h (0, 1)
  rw [he] at g
  unfold mulV at g
  simp only [Int.mul_zero] at g
  exact absurd (g.2.2 h0) (by omega)
theorem rn_ear (a b : Int) (s : Int × Int) : rn [a, 1, b] s = rn [a - 1, b - 1] s := by
  unfold rn stp; simp only [List.foldl_cons, List.foldl_nil, Prod.mk.injEq]; constructor <;> grind
theorem rn_two (a b : Int) (s : Int × Int) : rn [a, 1, 1, b] s = mulV (-1) (rn [a + b - 1] s) := by
  unfold rn stp mulV; simp only [List.foldl_cons, List.foldl_nil, Prod.mk.injEq]; constructor <;> grind
theorem eps_ear {e a b : Int} {r : List Int} : Eps e (a :: 1 :: b :: r) ↔ Eps e ((a - 1) :: (b - 1) :: r) := by
  have : ∀ s, rn (a :: 1 :: b :: r) s = rn ((a - 1) :: (b - 1) :: r) s := fun s => by
    rw [show a :: 1 :: b :: r = [a, 1, b] ++ r from rfl, show (a - 1) :: (b - 1) :: r = [a - 1, b - 1] ++ r from rfl, rn_append, rn_append, rn_ear]
  unfold Eps
  simp only [this]
theorem eps_two {e a b : Int} {r : List Int} (h : Eps e (a :: 1 :: 1 :: b :: r)) : Eps (-e) ((a + b - 1) :: r) := by
  intro s
  have := h s
  rw [show a :: 1 :: 1 :: b :: r = [a, 1, 1, b] ++ r from rfl, rn_append, rn_two, rn_mul, ← rn_append, List.singleton_append] at this
  generalize rn ((a + b - 1) :: r) s = t at *
  unfold mulV at *
  simp only [Prod.mk.injEq] at this
  exact Prod.ext (by simp only []; rw [Int.neg_mul]; omega) (by simp only []; rw [Int.neg_mul]; omega)
/-- Some rotation begins with a, 1, b. -/
theorem rot_one {r : List Int} (h : (1 : Int) ∈ r) (h3 : 3 ≤ r.length) : ∃ a b u v w, r = u ++ v ∧ v ++ u = a :: 1 :: b :: w := by
  obtain ⟨s, t, rfl⟩ := List.append_of_mem h
  cases hs : s.reverse with
  | nil =>
    have : s = [] := by simpa using hs
    subst this
    cases ht : t.reverse with
    | nil => have : t = [] := by simpa using ht
             subst this; simp at h3
    | cons z t' =>
      have et : t = t'.reverse ++ [z] := by rw [← List.reverse_reverse t, ht, List.reverse_cons]
      cases ht' : t'.reverse with
      | nil => rw [et, ht'] at h3; simp at h3
      | cons b w => exact ⟨z, b, 1 :: b :: w, [z], w, by rw [et, ht']; simp, by simp⟩
  | cons a s' =>
    have es : s = s'.reverse ++ [a] := by rw [← List.reverse_reverse s, hs, List.reverse_cons]
    cases t with
    | nil =>
      cases hs' : s'.reverse with
      | nil => rw [es, hs'] at h3; simp at h3
      | cons b w => exact ⟨a, b, b :: w, [a, 1], w, by rw [es, hs']; simp, by simp⟩
    | cons b t => exact ⟨a, b, s'.reverse, a :: 1 :: b :: t, t ++ s'.reverse, by rw [es]; simp, by simp⟩
/-- A positive list that comes back, or back to the opposite, leaves at least 6. -/
theorem left_six : ∀ (n : Nat) (r : List Int) (e : Int), r.length = n → r ≠ [] → (∀ a ∈ r, 1 ≤ a) → (e = 1 ∨ e = -1) → Eps e r → 6 ≤ left3 r := by
  intro n
  induction n using Nat.strongRecOn with
  | _ n ih =>
    intro r e hn h0 hp he h
    obtain ⟨x, hx, hx2⟩ := no_growth h h0
    have hx1 : x = 1 := by have := hp x hx; omega
    subst hx1
    match r, hn, h0, hp, h, hx with
    | [a], hn, h0, hp, h, hx =>
      have := h (1, 0)
      unfold rn stp mulV at this
      simp at this
    | [a, b], hn, h0, hp, h, hx =>
      have := h (1, 0)
      unfold rn stp mulV at this
      simp at this
      try (have := hp b (by simp); omega)
    | [a, b, c], hn, h0, hp, h, hx =>
      have q1 := h (1, 0)
      have q2 := h (0, 1)
      unfold rn stp mulV at q1 q2
      simp only [List.foldl_cons, List.foldl_nil, Prod.mk.injEq] at q1 q2
      have pa := hp a (by simp)
      have pb := hp b (by simp)
      have pc := hp c (by simp)
      have hb : b = 1 := by rcases he with rfl | rfl <;> omega
      subst hb
      simp only [left3]
      omega
    | a0 :: b0 :: c0 :: d0 :: r0, hn, h0, hp, h, hx =>
      obtain ⟨a, b, u, v, w, e1, e2⟩ := rot_one hx (by simp)
      have h' : Eps e (a :: 1 :: b :: w) := by rw [← e2]; rw [e1] at h; exact h.rot
      have hl : (a :: 1 :: b :: w).length = n := by rw [← e2, ← hn, e1]; simp; omega
      have hp' : ∀ y ∈ a :: 1 :: b :: w, 1 ≤ y := fun y hy => hp y (by rw [e1]; rw [← e2] at hy; simp at hy ⊢; exact hy.symm)
      have hleft : left3 (a0 :: b0 :: c0 :: d0 :: r0) = left3 (a :: 1 :: b :: w) := by rw [← e2, e1, left3_append, left3_append]; omega
      rw [hleft]
      have hn4 : 4 ≤ n := by rw [← hn]; simp
      have pa := hp' a (by simp)
      have pb := hp' b (by simp)
      have hw : w.length = n - 3 := by simp at hl; omega
      by_cases ha : a = 1
      · subst ha
        -- the last one in front
        cases hwr : w.reverse with
        | nil => have : w = [] := by simpa using hwr
                 subst this; simp at hw; omega
        | cons z w' =>
          have ew : w = w'.reverse ++ [z] := by rw [← List.reverse_reverse w, hwr, List.reverse_cons]
          have h2 : Eps e (z :: 1 :: 1 :: b :: w'.reverse) := by
            have : Eps e ((1 :: 1 :: b :: w'.reverse) ++ [z]) := by rw [ew] at h'; simpa using h'
            exact this.rot
          have h3 := eps_two h2
          have hz := hp' z (by rw [ew]; simp)
          have := ih (n - 3) (by omega) ((z + b - 1) :: w'.reverse) (-e) (by rw [ew] at hw; simp at hw ⊢; omega) (by simp) (fun y hy => by
            rcases List.mem_cons.1 hy with rfl | hy
            · omega
            · exact hp' y (by rw [ew]; simp at hy ⊢; right; right; left; exact hy)) (by omega) h3
          rw [ew]
          simp only [left3, left3_append] at this ⊢
          omega
      · by_cases hb : b = 1
        · subst hb
          cases w with
          | nil => simp at hw; omega
          | cons d w =>
            have h3 := eps_two h'
            have hd := hp' d (by simp)
            have := ih (n - 3) (by omega) ((a + d - 1) :: w) (-e) (by simp at hw ⊢; omega) (by simp) (fun y hy => by
              rcases List.mem_cons.1 hy with rfl | hy
              · omega
              · exact hp' y (by simp [hy])) (by omega) h3
            simp only [left3] at this ⊢
            omega
        · have h3 := eps_ear.1 h'
          have := ih (n - 1) (by omega) ((a - 1) :: (b - 1) :: w) e (by simp; omega) (by simp) (fun y hy => by
            rcases List.mem_cons.1 hy with rfl | hy
            · omega
            · rcases List.mem_cons.1 hy with rfl | hy
              · omega
              · exact hp' y (by simp [hy])) he h3
          simp only [left3] at this ⊢
          omega
/-- Where 6 are left, and there are more than three, no 1 is beside a 1. -/
theorem no_pair {a b : Int} {w : List Int} (h : Eps (-1) (a :: 1 :: b :: w)) (hp : ∀ y ∈ a :: 1 :: b :: w, 1 ≤ y) (hl : left3 (a :: 1 :: b :: w) = 6) (h4 : 1 ≤ w.length) : 1 < a ∧ 1 < b := by
  have pa := hp a (by simp)
  have pb := hp b (by simp)
  refine ⟨Classical.byContradiction fun hn => ?_, Classical.byContradiction fun hn => ?_⟩
  · obtain rfl : a = 1 := by omega
    cases hwr : w.reverse with
    | nil => have : w = [] := by simpa using hwr
             subst this; simp at h4
    | cons z w' =>
      have ew : w = w'.reverse ++ [z] := by rw [← List.reverse_reverse w, hwr, List.reverse_cons]
      have h2 : Eps (-1) (z :: 1 :: 1 :: b :: w'.reverse) := by
        have : Eps (-1) ((1 :: 1 :: b :: w'.reverse) ++ [z]) := by rw [ew] at h; simpa using h
        exact this.rot
      have hz := hp z (by rw [ew]; simp)
      have := left_six _ ((z + b - 1) :: w'.reverse) (- -1) rfl (by simp) (fun y hy => by
        rcases List.mem_cons.1 hy with rfl | hy
        · omega
        · exact hp y (by rw [ew]; simp at hy ⊢; right; right; left; exact hy)) (by omega) (eps_two h2)
      rw [ew] at hl
      simp only [left3, left3_append] at this hl
      omega
  · obtain rfl : b = 1 := by omega
    cases w with
    | nil => simp at h4
    | cons d w =>
      have hd := hp d (by simp)
      have := left_six _ ((a + d - 1) :: w) (- -1) rfl (by simp) (fun y hy => by
        rcases List.mem_cons.1 hy with rfl | hy
        · omega
        · exact hp y (by simp [hy])) (by omega) (eps_two h)
      simp only [left3] at this hl
      omega
theorem nth_app (a b : List Int) (i : Nat) : nth (a ++ b) i = if i < a.length then nth a i else nth b (i - a.length) := by
  unfold nth
  rw [List.getD_eq_getElem?_getD, List.getElem?_append]
  split <;> rw [List.getD_eq_getElem?_getD]
theorem nth_mem' {xs : List Int} {i : Nat} (h : i < xs.length) : nth xs i ∈ xs := by
  unfold nth; rw [List.getD_eq_getElem?_getD, List.getElem?_eq_getElem h]; exact List.getElem_mem h
theorem mem_nth' {xs : List Int} {x : Int} (h : x ∈ xs) : ∃ i, i < xs.length ∧ nth xs i = x := by
  obtain ⟨i, hi, rfl⟩ := List.mem_iff_getElem.1 h
  exact ⟨i, hi, by simp [nth, hi]⟩
theorem cut_mid (p q : List Int) (a x b : Int) : cutL (p ++ a :: x :: b :: q) (p.length + 1) = p ++ (a - 1) :: (b - 1) :: q := by
  have hl : (p ++ a :: x :: b :: q).length = p.length + q.length + 3 := by simp; omega
  have e1 : (p.length + 1 + (p.length + q.length + 3) - 1) % (p.length + q.length + 3) = p.length := by rw [mod_small (by omega), if_neg (by omega)]; omega
  have e2 : (p.length + 1 + 1) % (p.length + q.length + 3) = p.length + 2 := by rw [mod_small (by omega), if_pos (by omega)]
  unfold cutL
  simp only [hl, e1, e2]
  have n1 : nth (p ++ a :: x :: b :: q) p.length = a := by rw [nth_app, if_neg (by omega), Nat.sub_self]; rfl
  have s1 : (p ++ a :: x :: b :: q).set p.length (a - 1) = p ++ (a - 1) :: x :: b :: q := by simp
  rw [n1, s1]
  have n2 : nth (p ++ (a - 1) :: x :: b :: q) (p.length + 2) = b := by rw [nth_app, if_neg (by omega), show p.length + 2 - p.length = 2 by omega]; rfl
  have s2 : (p ++ (a - 1) :: x :: b :: q).set (p.length + 2) (b - 1) = p ++ (a - 1) :: x :: (b - 1) :: q := by simp
  rw [n2, s2, List.eraseIdx_append_of_length_le (by omega), show p.length + 1 - p.length = 1 by omega]
  rfl
theorem cut_first (q : List Int) (a x b : Int) : cutL (x :: b :: (q ++ [a])) 0 = (b - 1) :: (q ++ [a - 1]) := by
  have hl : (x :: b :: (q ++ [a])).length = q.length + 3 := by simp
  have e1 : (0 + (q.length + 3) - 1) % (q.length + 3) = q.length + 2 := by rw [mod_small (by omega), if_pos (by omega)]; omega
  have e2 : (0 + 1) % (q.length + 3) = 1 := by rw [mod_small (by omega), if_pos (by omega)]
  unfold cutL
  simp only [hl, e1, e2]
  have n1 : nth (x :: b :: (q ++ [a])) (q.length + 2) = a := by rw [show x :: b :: (q ++ [a]) = (x :: b :: q) ++ [a] by simp, nth_app, if_neg (by simp)]; simp [nth]
  have s1 : (x :: b :: (q ++ [a])).set (q.length + 2) (a - 1) = x :: b :: (q ++ [a - 1]) := by simp
  rw [n1, s1]
  rfl
theorem cut_last (q : List Int) (a x b : Int) : cutL (b :: (q ++ [a, x])) (q.length + 2) = (b - 1) :: (q ++ [a - 1]) := by
  have hl : (b :: (q ++ [a, x])).length = q.length + 3 := by simp
  have e1 : (q.length + 2 + (q.length + 3) - 1) % (q.length + 3) = q.length + 1 := by rw [mod_small (by omega), if_neg (by omega)]; omega
  have e2 : (q.length + 2 + 1) % (q.length + 3) = 0 := by rw [mod_small (by omega), if_neg (by omega)]; omega
  unfold cutL
  simp only [hl, e1, e2]
  have n1 : nth (b :: (q ++ [a, x])) (q.length + 1) = a := by rw [show b :: (q ++ [a, x]) = (b :: q) ++ [a, x] by simp, nth_app, if_neg (by simp)]; simp [nth]
  have s1 : (b :: (q ++ [a, x])).set (q.length + 1) (a - 1) = b :: (q ++ [a - 1, x]) := by simp
  rw [n1, s1]
  have n2 : nth (b :: (q ++ [a - 1, x])) 0 = b := rfl
  rw [n2, List.set_cons_zero, List.eraseIdx_cons_succ, List.eraseIdx_append_of_length_le (by omega), show q.length + 1 - q.length = 1 by omega]
  rfl
/-- A corner of a list, with both neighbours; the list when it is cut; up to rotation. -/
theorem cut_form {R : List Int} {c : Nat} (h3 : 3 ≤ R.length) (hc : c < R.length) : ∃ a x b w u v u' v', R = u ++ v ∧ v ++ u = a :: x :: b :: w ∧ cutL R c = u' ++ v' ∧ v' ++ u' = (a - 1) :: (b - 1) :: w ∧
    a = nth R ((c + R.length - 1) % R.length) ∧ x = nth R c ∧ b = nth R ((c + 1) % R.length) := by
  by_cases h0 : c = 0
  · subst h0
    match R, h3 with
    | x :: b :: t, h3 =>
      have ht : t ≠ [] := fun e => by subst e; simp at h3
      obtain ⟨q, a, rfl⟩ : ∃ q a, t = q ++ [a] := ⟨t.dropLast, t.getLast ht, (List.dropLast_concat_getLast ht).symm⟩
      have hl : (x :: b :: (q ++ [a])).length = q.length + 3 := by simp
      refine ⟨a, x, b, q, x :: b :: q, [a], (b - 1) :: q, [a - 1], by simp, by simp, by rw [cut_first]; simp, by simp, ?_, rfl, ?_⟩
      · rw [hl, mod_small (by omega), if_pos (by omega), show x :: b :: (q ++ [a]) = (x :: b :: q) ++ [a] by simp, nth_app, if_neg (by simp)]
        simp [nth]
      · rw [hl, mod_small (by omega), if_pos (by omega)]; rfl
  · by_cases h1 : c + 1 = R.length
    · match R, h3 with
      | b :: t, h3 =>
        have ht : t ≠ [] := fun e => by subst e; simp at h3
        obtain ⟨t', x, rfl⟩ : ∃ q a, t = q ++ [a] := ⟨t.dropLast, t.getLast ht, (List.dropLast_concat_getLast ht).symm⟩
        have ht' : t' ≠ [] := fun e => by subst e; simp at h3
        obtain ⟨q, a, rfl⟩ : ∃ q a, t' = q ++ [a] := ⟨t'.dropLast, t'.getLast ht', (List.dropLast_concat_getLast ht').symm⟩
        have hl : (b :: (q ++ [a] ++ [x])).length = q.length + 3 := by simp
        have hcq : c = q.length + 2 := by omega
        subst hcq
        have e : b :: (q ++ [a] ++ [x]) = b :: (q ++ [a, x]) := by simp
        refine ⟨a, x, b, q, b :: q, [a, x], (b - 1) :: q, [a - 1], by simp, by simp, by rw [e, cut_last]; simp, by simp, ?_, ?_, ?_⟩
        · rw [hl, mod_small (by omega), if_neg (by omega), show q.length + 2 + (q.length + 3) - 1 - (q.length + 3) = q.length + 1 by omega, show b :: (q ++ [a] ++ [x]) = (b :: q) ++ [a, x] by simp, nth_app, if_neg (by simp)]
          simp [nth]
        · rw [show b :: (q ++ [a] ++ [x]) = (b :: q ++ [a]) ++ [x] by simp, nth_app, if_neg (by simp)]
          simp [nth]
        · rw [hl, mod_small (by omega), if_neg (by omega), show q.length + 2 + 1 - (q.length + 3) = 0 by omega]; rfl
    · have hR : R = R.take (c - 1) ++ nth R (c - 1) :: nth R c :: nth R (c + 1) :: R.drop (c + 2) := by
        have hd : ∀ i, i < R.length → R.drop i = nth R i :: R.drop (i + 1) := fun i hi => by
          rw [List.drop_eq_getElem_cons hi]
          simp [nth, hi]
        rw [← show R.drop (c - 1) = nth R (c - 1) :: nth R c :: nth R (c + 1) :: R.drop (c + 2) from by
          rw [hd (c - 1) (by omega), show c - 1 + 1 = c by omega, hd c hc, hd (c + 1) (by omega)], List.take_append_drop]
      have hlen : (R.take (c - 1)).length + 1 = c := by rw [List.length_take]; omega
      generalize hp : R.take (c - 1) = p at *
      generalize hq : R.drop (c + 2) = q at *
      have em : (c + R.length - 1) % R.length = c - 1 := by rw [mod_small (by omega), if_neg (by omega)]; omega
      have eb : (c + 1) % R.length = c + 1 := by rw [mod_small (by omega), if_pos (by omega)]
      rw [em, eb]
      generalize nth R (c - 1) = a at *
      generalize nth R c = x at *
      generalize nth R (c + 1) = b at *
      subst hR
      refine ⟨a, x, b, q ++ p, p, a :: x :: b :: q, p, (a - 1) :: (b - 1) :: q, rfl, by simp, ?_, by simp, rfl, rfl, rfl⟩
      rw [← hlen]
      exact cut_mid p q a x b
/-- A list that comes back to the opposite, positive, with 6 left. -/
def Good (R : List Int) : Prop := Eps (-1) R ∧ left3 R = 6
theorem left3_pos : ∀ {R : List Int}, (∀ a ∈ R, 1 ≤ a) → left3 R ≤ 2 * R.length := by
  intro R
  induction R with
  | nil => intro _; simp [left3]
  | cons a R ih =>
    intro h
    have := ih fun x hx => h x (List.mem_cons_of_mem _ hx)
    have := h a (by simp)
    rw [left3, List.length_cons]
    omega
theorem Good.cut {R : List Int} {c : Nat} (h : Good R) (h3 : 3 ≤ R.length) (hc : c < R.length) (he : nth R c = 1) : Good (cutL R c) := by
  obtain ⟨a, x, b, w, u, v, u', v', e1, e2, e3, e4, ea, ex, eb⟩ := cut_form h3 hc
  rw [he] at ex
  subst ex
  have hE : Eps (-1) (a :: 1 :: b :: w) := by rw [← e2]; have := h.1; rw [e1] at this; exact this.rot
  have hE' := eps_ear.1 hE
  have hl : left3 (a :: 1 :: b :: w) = 6 := by rw [← e2]; have := h.2; rw [e1, left3_append] at this; rw [left3_append]; omega
  refine ⟨by rw [e3]; rw [← e4] at hE'; exact hE'.rot, ?_⟩
  rw [e3, left3_append]
  have : left3 (v' ++ u') = 6 := by rw [e4]; simp only [left3] at hl ⊢; omega
  rw [left3_append] at this
  omega
theorem good_run : ∀ (m : Nat) (f : Nat) (R : List Int), R.length = m + 3 → Tame R → Good R → m < f → ∃ R' S, runE f R (upTo R.length) [] = some (R', S) ∧ maxL R' = 1 := by
  intro m
  induction m with
  | zero =>
    intro f R hl hT hG hf
    obtain ⟨g, rfl⟩ : ∃ g, f = g + 1 := ⟨f - 1, by omega⟩
    refine ⟨R, [], by rw [runE, if_pos (by rw [upTo_length]; omega)], (maxL_one hT (by omega)).2 fun i hi => ?_⟩
    match R, hl with
    | [a, b, c], hl =>
      have h2 := hG.2
      simp only [left3] at h2
      have ha := hT 0 (by simp)
      have hb := hT 1 (by simp)
      have hc := hT 2 (by simp)
      change 1 ≤ a ∧ a ≤ 12 at ha
      change 1 ≤ b ∧ b ≤ 12 at hb
      change 1 ≤ c ∧ c ≤ 12 at hc
      have : i = 0 ∨ i = 1 ∨ i = 2 := by simp at hi; omega
      rcases this with rfl | rfl | rfl
      · show a = 1; omega
      · show b = 1; omega
      · show c = 1; omega
  | succ m ih =>
    intro f R hl hT hG hf
    obtain ⟨g, rfl⟩ : ∃ g, f = g + 1 := ⟨f - 1, by omega⟩
    have hpos : ∀ a ∈ R, 1 ≤ a := fun a ha => by
      obtain ⟨i, hi, rfl⟩ := mem_nth' ha
      exact (hT i hi).1
    have hne : R ≠ [] := fun e => by rw [e] at hl; simp at hl
    obtain ⟨x, hx, hx2⟩ := no_growth hG.1 hne
    have hx1 : x = 1 := by have := hpos x hx; omega
    subst hx1
    obtain ⟨j, hj, hj1⟩ := mem_nth' hx
    cases hc : earOf R with
    | none =>
      have hno := List.find?_eq_none.1 hc j (List.mem_range.2 hj)
      obtain ⟨a, y, b, w, u, v, u', v', e1, e2, e3, e4, ea, ey, eb⟩ := cut_form (c := j) (by omega) hj
      rw [hj1] at ey
      subst ey
      have hE : Eps (-1) (a :: 1 :: b :: w) := by rw [← e2]; have := hG.1; rw [e1] at this; exact this.rot
      have hl6 : left3 (a :: 1 :: b :: w) = 6 := by rw [← e2]; have := hG.2; rw [e1, left3_append] at this; rw [left3_append]; omega
      have hlen : (a :: 1 :: b :: w).length = m + 1 + 3 := by rw [← e2, ← hl, e1]; simp; omega
      have hp' : ∀ z ∈ a :: 1 :: b :: w, 1 ≤ z := fun z hz => hpos z (by rw [← e2] at hz; rw [e1]; simp at hz ⊢; exact hz.symm)
      have := no_pair hE hp' hl6 (by simp at hlen; omega)
      exact absurd (show EarP R j from ⟨hj1, by rw [← ea]; exact this.1, by rw [← eb]; exact this.2⟩) (by simpa using hno)
    | some c =>
      obtain ⟨hcl, hear, _⟩ := earOf_lt hc
      have hcut := cutL_length hcl
      rw [hl, show m + 1 + 3 - 1 = m + 3 by omega] at hcut
      obtain ⟨R', S, hr, hmx⟩ := ih g (cutL R c) hcut (cutL_tame hT hcl hear (by omega)) (hG.cut (by omega) hcl hear.1) (by omega)
      rw [run_step (by omega) hc, hr]
      exact ⟨R', _, rfl, hmx⟩
end Go.Proofs.Ytflbaadfbjpakaa
