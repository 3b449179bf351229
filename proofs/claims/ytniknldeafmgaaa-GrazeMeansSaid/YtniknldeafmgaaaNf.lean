/- Layer 8, mathematics: on the average, by trying all states. -/
import Derived.Test.YtniknldeafmgaaaHl
import Derived.Test.YtniknldeafmgaaaNb
namespace Go.Proofs.Ytniknldeafmgaaa
set_option linter.unusedSimpArgs false
set_option linter.unusedVariables false

/-- The number of ends of a list of rows. -/
def eL : List Nat → Nat
  | [] => 0
  | x :: xs => (if xs.headD 0 < x then 1 else 0) + eL xs
def sL : List Nat → Nat
  | [] => 0
  | x :: xs => x + sL xs
/-- Along the round: the sums, and the test where it closes. -/
def orb (a b : Nat) (L0 : List Nat) : Nat → List Nat → Nat → Nat → Nat → Bool
  | 0, _, _, _, _ => false
  | f + 1, cur, k, s, e => if dl b cur == L0 then (2 * (s + sL cur) == a * b * (k + 1)) && ((a + b) * (e + eL cur) == a * b * (k + 1)) else orb a b L0 f (dl b cur) (k + 1) (s + sL cur) (e + eL cur)
set_option maxRecDepth 100000 in
theorem mean6 : all6 (fun a b L => orb a b L (a + b) L 0 0 0) = true := by decide +kernel
theorem fil_len (x l : Nat) : ∀ n, ((List.range n).filter (fun j => decide (j + 1 = x ∧ l ≤ j))).length = if l < x ∧ x ≤ n then 1 else 0
  | 0 => by rw [if_neg (by omega)]; rfl
  | n + 1 => by
    rw [List.range_succ, List.filter_append, List.length_append, fil_len x l n]
    by_cases c : n + 1 = x ∧ l ≤ n
    · rw [if_neg (by omega), if_pos (by omega)]
      simp [c]
    · have e : ([n].filter (fun j => decide (j + 1 = x ∧ l ≤ j))).length = 0 := by
        rw [List.filter_cons_of_neg (by simpa using c)]; rfl
      rw [e]
      by_cases d : l < x ∧ x ≤ n
      · rw [if_pos d, if_pos (by omega)]
      · rw [if_neg d, if_neg (by omega)]
theorem rw_end {a b : Nat} {g : Nat → Nat} (hp : IsP a b g) (r : Nat) : (rwL (isE a g) r b).length = if lea a g r < g r then 1 else 0 := by
  unfold rwL
  rw [List.length_map]
  have e : (isE a g r) = fun j => decide (j + 1 = g r ∧ lea a g r ≤ j) := rfl
  rw [e, fil_len]
  have := hp.gb r
  by_cases c : lea a g r < g r
  · rw [if_pos c, if_pos ⟨c, this⟩]
  · rw [if_neg c, if_neg (fun h => c h.1)]
theorem eL_snoc (a b : Nat) (g : Nat → Nat) (hp : IsP a b g) : ∀ n r, r + n = a → eL (stR g r n) + (plT (isE a g) b r).length = (plT (isE a g) b a).length
  | 0, r, h => by rw [show r = a by omega]; simp [stR, eL]
  | n + 1, r, h => by
    have ih := eL_snoc a b g hp n (r + 1) (by omega)
    have el : (stR g (r + 1) n).headD 0 = lea a g r := by
      rw [stR_head]
      unfold lea
      by_cases hn : n = 0
      · rw [if_pos hn, if_pos (by omega)]
      · rw [if_neg hn, if_neg (by omega)]
    rw [← plU_end, plU, List.length_append, rw_end hp] at ih
    rw [stR, eL, el]
    omega
theorem ends_len {a b : Nat} {g : Nat → Nat} (hp : IsP a b g) : (plT (isE a g) b a).length = eL (stR g 0 a) := by
  rw [← eL_snoc a b g hp a 0 (by omega)]; simp [plT]
/-- The grazed plots, and the ends, of the first n states. -/
def grN (a b : Nat) (g : Nat → Nat) : Nat → Nat
  | 0 => 0
  | n + 1 => grN a b g n + sL (stR (dayI a b g n) 0 a)
def enN (a b : Nat) (g : Nat → Nat) : Nat → Nat
  | 0 => 0
  | n + 1 => enN a b g n + eL (stR (dayI a b g n) 0 a)
theorem orb_T {a b T : Nat} {g : Nat → Nat} (hs : IsS a b g) (hT : IsT a b g T) : ∀ f k, k < T → orb a b (stR g 0 a) f (stR (dayI a b g k) 0 a) k (grN a b g k) (enN a b g k) = true → 2 * grN a b g T = a * b * T ∧ (a + b) * enN a b g T = a * b * T
  | 0, k, _, h => by simp [orb] at h
  | f + 1, k, hk, h => by
    unfold orb at h
    rw [dl_day0] at h
    by_cases e : k + 1 = T
    · have e2 : dayF a b (dayI a b g k) = g := by
        have := hT.eq
        rw [← e] at this
        exact this
      rw [e2] at h
      simp only [beq_self_eq_true, if_true, Bool.and_eq_true, beq_iff_eq] at h
      rw [← e]
      exact h
    · have hne : ¬ ((stR (dayF a b (dayI a b g k)) 0 a == stR g 0 a) = true) := by
        rw [beq_iff_eq]
        intro h2
        exact hT.ne (k + 1) (by omega) (by omega) (fun_of (dayI_S hs (k + 1)).zr hs.zr h2)
      rw [if_neg hne] at h
      exact orb_T hs hT f (k + 1) (by omega) h
theorem means {a b T : Nat} {g : Nat → Nat} (hs : IsS a b g) (hT : IsT a b g T) : 2 * grN a b g T = a * b * T ∧ (a + b) * enN a b g T = a * b * T :=
  orb_T hs hT (a + b) 0 (by have := hT.t1; omega) (all6_at mean6 hs)
/-- The sum of the rows below the k-th. -/
def smN (g : Nat → Nat) : Nat → Nat
  | 0 => 0
  | k + 1 => smN g k + g k
theorem sL_app (l m : List Nat) : sL (l ++ m) = sL l + sL m := by
  induction l with
  | nil => simp [sL]
  | cons x l ih => rw [List.cons_append, sL, ih, sL]; omega
theorem st_snoc (g : Nat → Nat) : ∀ n r, stR g r (n + 1) = stR g r n ++ [g (r + n)]
  | 0, r => rfl
  | n + 1, r => by
    have ih := st_snoc g n (r + 1)
    rw [stR, ih, stR, show r + 1 + n = r + (n + 1) by omega]; rfl
theorem smN_eq (g : Nat → Nat) : ∀ n, smN g n = sL (stR g 0 n)
  | 0 => rfl
  | n + 1 => by rw [smN, smN_eq g n, st_snoc, sL_app, Nat.zero_add]; rfl
theorem smN_le {g : Nat → Nat} (h : ∀ i, g i ≤ 6) : ∀ n, smN g n ≤ 6 * n
  | 0 => Nat.le_refl _
  | n + 1 => by have := smN_le h n; have := h n; rw [smN]; omega
theorem eL_le : ∀ l : List Nat, eL l ≤ l.length
  | [] => Nat.le_refl _
  | x :: l => by
    have := eL_le l
    rw [eL, List.length_cons]
    split <;> omega
end Go.Proofs.Ytniknldeafmgaaa
