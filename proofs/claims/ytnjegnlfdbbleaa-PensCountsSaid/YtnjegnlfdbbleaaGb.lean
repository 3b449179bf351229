/- Layer 1, plain geometry: a diagonal cuts a polygon, there is always one, and the sides turn around once. -/
import Derived.Test.YtnjegnlfdbbleaaGa
namespace Go.Proofs.Ytnjegnlfdbbleaa

/-- The way from post 0 to post j meets no side but at these posts. -/
structure Diag (n : Nat) (p : Nat → Int × Int) (j : Nat) : Prop where
  h2 : 2 ≤ j
  hn : j + 2 ≤ n
  c1 : ∀ k, k < n → k ≠ 0 → k ≠ j → ¬ OnP (p 0) (p j) (p k)
  c2 : ∀ k, k < n → k ≠ 0 → k ≠ j → suc n k ≠ 0 → suc n k ≠ j → ¬ MeetP (p 0) (p j) (p k) (p (suc n k))
theorem suc_in {n i : Nat} (h : i + 1 < n) : suc n i = i + 1 := Nat.mod_eq_of_lt h
theorem suc_last (j : Nat) : suc (j + 1) j = 0 := Nat.mod_self _
theorem Simp.cut {n : Nat} {p : Nat → Int × Int} (h : Simp n p) {j : Nat} (d : Diag n p j) : Simp (j + 1) p := by
  have h2 := d.h2
  have hn := d.hn
  have e1 : ∀ i, i < j → suc (j + 1) i = i + 1 := fun i hi => suc_in (by omega)
  have e2 : ∀ i, i < j → suc n i = i + 1 := fun i hi => suc_in (by omega)
  have el := suc_last j
  refine ⟨by omega, fun i hi => ?_, fun i hi => ?_, fun i k hi hk a b c => ?_⟩
  · by_cases hij : i = j
    · subst hij; rw [el]
      exact fun e => by have := h.inj (by omega) (by omega) e; omega
    · have := h.ne i (by omega)
      rw [e2 i (by omega)] at this
      rw [e1 i (by omega)]; exact this
  · by_cases hij : i = j
    · subst hij
      rw [el, e1 0 (by omega)]
      refine ⟨fun ho => d.c1 1 (by omega) (by omega) (by omega) (OnP_swap.1 ho), fun ho => ?_⟩
      have := h.post_off (i := 0) (k := i) (by omega) (by omega) (by omega) (by rw [e2 0 (by omega)]; omega)
      rw [e2 0 (by omega)] at this
      exact this ho
    · by_cases hij1 : i + 1 = j
      · rw [e1 i (by omega), hij1, el]
        refine ⟨fun ho => ?_, fun ho => d.c1 i (by omega) (by omega) (by omega) (OnP_swap.1 ho)⟩
        have := h.post_off (i := i) (k := 0) (by omega) (by omega) (by omega) (by rw [e2 i (by omega)]; omega)
        rw [e2 i (by omega), hij1] at this
        exact this ho
      · have := h.adj i (by omega)
        rw [e2 i (by omega), e2 (i + 1) (by omega)] at this
        rw [e1 i (by omega), e1 (i + 1) (by omega)]
        exact this
  · by_cases hij : i = j
    · subst hij
      rw [el] at b ⊢
      rw [e1 k (by omega)] at c ⊢
      rw [MeetP_swap1]
      have := d.c2 k (by omega) (by omega) (by omega) (by rw [e2 k (by omega)]; omega) (by rw [e2 k (by omega)]; omega)
      rw [e2 k (by omega)] at this
      exact this
    · rw [e1 i (by omega)] at b ⊢
      by_cases hkj : k = j
      · subst hkj
        rw [el] at c ⊢
        rw [MeetP_comm, MeetP_swap1]
        have := d.c2 i (by omega) (by omega) (by omega) (by rw [e2 i (by omega)]; omega) (by rw [e2 i (by omega)]; omega)
        rw [e2 i (by omega)] at this
        exact this
      · rw [e1 k (by omega)] at c ⊢
        have := h.far i k (by omega) (by omega) a (by rw [e2 i (by omega)]; exact b) (by rw [e2 k (by omega)]; exact c)
        rw [e2 i (by omega), e2 k (by omega)] at this
        exact this
theorem Diag.sym {n : Nat} {p : Nat → Int × Int} {j : Nat} (d : Diag n p j) : Diag n (rotK n p j) (n - j) := by
  have h2 := d.h2
  have hn := d.hn
  have e0 : rotK n p j 0 = p j := by unfold rotK; rw [Nat.zero_add, Nat.mod_eq_of_lt (by omega)]
  have ej : rotK n p j (n - j) = p 0 := by unfold rotK; rw [show n - j + j = n by omega, Nat.mod_self]
  have es : ∀ k, rotK n p j (suc n k) = p (suc n ((k + j) % n)) := fun k => by
    unfold rotK suc
    rw [Nat.mod_add_mod, Nat.mod_add_mod, show k + 1 + j = k + j + 1 by omega]
  have m0 : ∀ k, k < n → (k + j) % n = 0 → k = n - j := fun k hk e => by
    rcases Nat.lt_or_ge (k + j) n with h | h
    · rw [Nat.mod_eq_of_lt h] at e; omega
    · rw [Nat.mod_eq_sub_mod h, Nat.mod_eq_of_lt (by omega)] at e; omega
  have mj : ∀ k, k < n → (k + j) % n = j → k = 0 := fun k hk e => by
    rcases Nat.lt_or_ge (k + j) n with h | h
    · rw [Nat.mod_eq_of_lt h] at e; omega
    · rw [Nat.mod_eq_sub_mod h, Nat.mod_eq_of_lt (by omega)] at e; omega
  have ms : ∀ k, suc n ((k + j) % n) = (suc n k + j) % n := fun k => by
    unfold suc
    rw [Nat.mod_add_mod, Nat.mod_add_mod, show k + 1 + j = k + j + 1 by omega]
  refine ⟨by omega, by omega, fun k hk h0 hj => ?_, fun k hk h0 hj hs0 hsj => ?_⟩
  · rw [e0, ej]
    exact fun ho => d.c1 ((k + j) % n) (Nat.mod_lt _ (by omega)) (fun e => hj (m0 k hk e)) (fun e => h0 (mj k hk e)) (OnP_swap.1 ho)
  · rw [e0, ej, es, MeetP_swap1]
    exact d.c2 ((k + j) % n) (Nat.mod_lt _ (by omega)) (fun e => hj (m0 k hk e)) (fun e => h0 (mj k hk e))
      (fun e => hsj (m0 _ (suc_lt hk) (by rw [← ms]; exact e))) (fun e => hs0 (mj _ (suc_lt hk) (by rw [← ms]; exact e)))
theorem sumI_plus (f : Nat → Int) (a b : Nat) : sumI f (a + b) = sumI f a + sumI (fun i => f (a + i)) b := by
  induction b with
  | zero => simp [sumI]
  | succ b ih => rw [← Nat.add_assoc, sumI, ih, sumI]; omega
/-- A sum over the sides, and those of both parts. -/
theorem sum_parts (g : (Int × Int) → (Int × Int) → Int) (n : Nat) (p : Nat → Int × Int) {j : Nat} (h2 : 2 ≤ j) (hn : j + 2 ≤ n) :
    sumI (fun i => g (p i) (p (suc (j + 1) i))) (j + 1) + sumI (fun i => g (rotK n p j i) (rotK n p j (suc (n - j + 1) i))) (n - j + 1) = sumI (fun i => g (p i) (p (suc n i))) n + g (p j) (p 0) + g (p 0) (p j) := by
  have e1 : sumI (fun i => g (p i) (p (suc (j + 1) i))) (j + 1) = sumI (fun i => g (p i) (p (suc n i))) j + g (p j) (p 0) := by
    rw [sumI, suc_last]
    rw [sumI_congr (fun i hi => by rw [suc_in (n := j + 1) (show i + 1 < j + 1 by omega), ← suc_in (n := n) (show i + 1 < n by omega)])]
  have e2 : sumI (fun i => g (rotK n p j i) (rotK n p j (suc (n - j + 1) i))) (n - j + 1) = sumI (fun i => g (p (j + i)) (p (suc n (j + i)))) (n - j) + g (p 0) (p j) := by
    rw [sumI, suc_last]
    have r0 : rotK n p j 0 = p j := by unfold rotK; rw [Nat.zero_add, Nat.mod_eq_of_lt (by omega)]
    have rj : rotK n p j (n - j) = p 0 := by unfold rotK; rw [show n - j + j = n by omega, Nat.mod_self]
    rw [r0, rj]
    rw [sumI_congr (g := fun i => g (p (j + i)) (p (suc n (j + i)))) (fun i hi => by
      rw [suc_in (n := n - j + 1) (show i + 1 < n - j + 1 by omega)]
      unfold rotK suc
      rw [Nat.mod_eq_of_lt (show i + j < n by omega), show i + 1 + j = j + i + 1 by omega, show i + j = j + i by omega])]
  have e3 := sumI_plus (fun i => g (p i) (p (suc n i))) j (n - j)
  rw [show j + (n - j) = n by omega] at e3
  omega
theorem cP_parts (n : Nat) (p : Nat → Int × Int) {j : Nat} (h2 : 2 ≤ j) (hn : j + 2 ≤ n) (q : Int × Int) : cP n p q = cP (j + 1) p q + cP (n - j + 1) (rotK n p j) q := by
  have := sum_parts (fun a b => cE q a b) n p h2 hn
  rw [cE_swap q (p 0) (p j)] at this
  unfold cP
  omega
theorem low_both {a b : Int × Int} (h : a ≠ b) : lowI a b + lowI b a = 1 := by
  have := pt_ne h
  unfold lowI Low
  split <;> split <;> omega
/-- How often the sides turn around. -/
def turnW (n : Nat) (p : Nat → Int × Int) : Int := sumI (fun i => lowI (p i) (p (suc n i))) n - sumI (fun i => cP n p (p i)) n
theorem at_inner {n : Nat} {p : Nat → Int × Int} (h : Simp n p) {j : Nat} (d : Diag n p j) (hk : kap (j + 1) p = kap n p) {i : Nat} (h0 : 0 < i) (hi : i < j) : cP (j + 1) p (p i) = cP n p (p i) := by
  have hn := d.hn
  have a1 := h.at_post (i := i - 1) (by omega)
  have a2 := (h.cut d).at_post (i := i - 1) (by omega)
  rw [suc_in (n := n) (by omega), show i - 1 + 1 = i by omega, suc_in (n := n) (by omega)] at a1
  rw [suc_in (n := j + 1) (by omega), show i - 1 + 1 = i by omega, suc_in (n := j + 1) (by omega)] at a2
  omega
theorem turn_parts {n : Nat} {p : Nat → Int × Int} (h : Simp n p) {j : Nat} (d : Diag n p j) (hk1 : kap (j + 1) p = kap n p) (hk2 : kap (n - j + 1) (rotK n p j) = kap n p) :
    turnW n p = turnW (j + 1) p + turnW (n - j + 1) (rotK n p j) - 1 := by
  have h2 := d.h2
  have hn := d.hn
  have hb : p 0 ≠ p j := fun e => by have := h.inj (by omega) (by omega) e; omega
  have L := sum_parts lowI n p h2 hn
  have L2 := low_both hb
  have r0 : rotK n p j 0 = p j := by unfold rotK; rw [Nat.zero_add, Nat.mod_eq_of_lt (by omega)]
  have rj : rotK n p j (n - j) = p 0 := by unfold rotK; rw [show n - j + j = n by omega, Nat.mod_self]
  have in1 : ∀ i, 0 < i → i < j → cP (j + 1) p (p i) = cP n p (p i) := fun i h0 hi => at_inner h d hk1 h0 hi
  have in2 : ∀ i, 0 < i → i < n - j → cP (n - j + 1) (rotK n p j) (p (j + i)) = cP n p (p (j + i)) := fun i h0 hi => by
    have := at_inner (h.begun j) d.sym (by rw [kap_rotK h]; exact hk2) h0 hi
    rw [cP_rotK] at this
    unfold rotK at this ⊢
    rw [Nat.mod_eq_of_lt (show i + j < n by omega)] at this
    rw [show j + i = i + j by omega]
    exact this
  -- sums over the posts
  have s1 : sumI (fun i => cP (j + 1) p (p i)) (j + 1) = cP (j + 1) p (p 0) + sumI (fun i => cP n p (p (i + 1))) (j - 1) + cP (j + 1) p (p j) := by
    rw [sumI]
    obtain ⟨m, rfl⟩ : ∃ m, j = m + 1 := ⟨j - 1, by omega⟩
    rw [sumI_first, show m + 1 - 1 = m by omega, sumI_congr (g := fun i => cP n p (p (i + 1))) (fun i hi => in1 (i + 1) (by omega) (by omega))]
  have s2 : sumI (fun i => cP (n - j + 1) (rotK n p j) (rotK n p j i)) (n - j + 1) = cP (n - j + 1) (rotK n p j) (p j) + sumI (fun i => cP n p (p (j + (i + 1)))) (n - j - 1) + cP (n - j + 1) (rotK n p j) (p 0) := by
    rw [sumI, rj]
    obtain ⟨m, hm⟩ : ∃ m, n - j = m + 1 := ⟨n - j - 1, by omega⟩
    rw [hm, sumI_first, r0, show m + 1 - 1 = m by omega, ← hm, sumI_congr (g := fun i => cP n p (p (j + (i + 1)))) (fun i hi => by
      have := in2 (i + 1) (by omega) (by omega)
      rw [← this]
      unfold rotK
      rw [show i + 1 + j = j + (i + 1) by omega, Nat.mod_eq_of_lt (show j + (i + 1) < n by omega)])]
  have s3 : sumI (fun i => cP n p (p i)) n = cP n p (p 0) + sumI (fun i => cP n p (p (i + 1))) (j - 1) + cP n p (p j) + sumI (fun i => cP n p (p (j + (i + 1)))) (n - j - 1) := by
    have e := sumI_plus (fun i => cP n p (p i)) j (n - j)
    rw [show j + (n - j) = n by omega] at e
    obtain ⟨m, rfl⟩ : ∃ m, j = m + 1 := ⟨j - 1, by omega⟩
    obtain ⟨l, hl⟩ : ∃ l, n - (m + 1) = l + 1 := ⟨n - (m + 1) - 1, by omega⟩
    rw [e, hl, sumI_first, sumI_first (fun i => cP n p (p (m + 1 + i)))]
    simp only [Nat.add_sub_cancel, Nat.add_zero]
    omega
  have c0 := cP_parts n p h2 hn (p 0)
  have cj := cP_parts n p h2 hn (p j)
  unfold turnW
  rw [s1, s2, s3]
  omega
theorem cE_high {y a b : Int × Int} (ha : y.2 < a.2) (hb : ¬ y.2 < b.2) : cE y a b = if crossI a b y < 0 then -1 else 0 := by
  unfold cE
  rw [if_neg (by omega)]
  by_cases h : crossI a b y < 0
  · rw [if_pos ⟨by omega, ha, h⟩, if_pos h]; rfl
  · rw [if_neg (fun k => h k.2.2), if_neg h]; rfl
theorem cE_low {y a b : Int × Int} (ha : ¬ y.2 < a.2) (hb : y.2 < b.2) : cE y a b = if 0 < crossI a b y then 1 else 0 := by
  unfold cE
  rw [if_neg (show ¬ (b.2 ≤ y.2 ∧ y.2 < a.2 ∧ crossI a b y < 0) by omega)]
  by_cases h : 0 < crossI a b y
  · rw [if_pos ⟨by omega, hb, h⟩, if_pos h]; rfl
  · rw [if_neg (fun k => h k.2.2), if_neg h]; rfl
theorem cE_flat {y a b : Int × Int} (h : y.2 < a.2 ↔ y.2 < b.2) : cE y a b = 0 := by
  unfold cE
  rw [if_neg (by omega), if_neg (by omega)]; rfl
/-- Beside a triangle nothing is crossed. -/
theorem tri_out {a b c y : Int × Int} (h : (0 < crossI a b c ∧ ¬ (0 ≤ crossI a b y ∧ 0 ≤ crossI b c y ∧ 0 ≤ crossI c a y)) ∨ (crossI a b c < 0 ∧ ¬ (crossI a b y ≤ 0 ∧ crossI b c y ≤ 0 ∧ crossI c a y ≤ 0))) :
    cE y a b + cE y b c + cE y c a = 0 := by
  have hs : crossI a b y + crossI b c y + crossI c a y = crossI a b c := by unfold crossI; grind
  have id : crossI b c y * (a.2 - y.2) + crossI c a y * (b.2 - y.2) + crossI a b y * (c.2 - y.2) = 0 := by unfold crossI; grind
  have m1 := sg_mul (crossI b c y) (a.2 - y.2)
  have m2 := sg_mul (crossI c a y) (b.2 - y.2)
  have m3 := sg_mul (crossI a b y) (c.2 - y.2)
  by_cases ha : y.2 < a.2 <;> by_cases hb : y.2 < b.2 <;> by_cases hc : y.2 < c.2
  · rw [cE_flat (by omega), cE_flat (by omega), cE_flat (by omega)]; rfl
  · rw [cE_flat (a := a) (b := b) (by omega), cE_high hb hc, cE_low hc ha]
    generalize crossI a b y = A at *; generalize crossI b c y = B at *; generalize crossI c a y = C at *
    split <;> split <;> omega
  · rw [cE_high ha hb, cE_low hb hc, cE_flat (a := c) (b := a) (by omega)]
    generalize crossI a b y = A at *; generalize crossI b c y = B at *; generalize crossI c a y = C at *
    split <;> split <;> omega
  · rw [cE_high ha hb, cE_flat (a := b) (b := c) (by omega), cE_low hc ha]
    generalize crossI a b y = A at *; generalize crossI b c y = B at *; generalize crossI c a y = C at *
    split <;> split <;> omega
  · rw [cE_low ha hb, cE_flat (a := b) (b := c) (by omega), cE_high hc ha]
    generalize crossI a b y = A at *; generalize crossI b c y = B at *; generalize crossI c a y = C at *
    split <;> split <;> omega
  · rw [cE_low ha hb, cE_high hb hc, cE_flat (a := c) (b := a) (by omega)]
    generalize crossI a b y = A at *; generalize crossI b c y = B at *; generalize crossI c a y = C at *
    split <;> split <;> omega
  · rw [cE_flat (a := a) (b := b) (by omega), cE_low hb hc, cE_high hc ha]
    generalize crossI a b y = A at *; generalize crossI b c y = B at *; generalize crossI c a y = C at *
    split <;> split <;> omega
  · rw [cE_flat (by omega), cE_flat (by omega), cE_flat (by omega)]; rfl
theorem tri_kap {p : Nat → Int × Int} (h : Simp 3 p) : (0 < crossI (p 0) (p 1) (p 2) ∧ kap 3 p = 0) ∨ (crossI (p 0) (p 1) (p 2) < 0 ∧ kap 3 p = -1) := by
  obtain ⟨k, hk⟩ := h.least_at
  have := (h.begun k).least hk
  rw [kap_rotK h] at this
  have e : crossI (rotK 3 p k 0) (rotK 3 p k 1) (rotK 3 p k 2) = crossI (p 0) (p 1) (p 2) := by
    unfold rotK
    have h3 : k % 3 = 0 ∨ k % 3 = 1 ∨ k % 3 = 2 := by omega
    rcases h3 with h3 | h3 | h3
    · rw [show (0 + k) % 3 = 0 by omega, show (1 + k) % 3 = 1 by omega, show (2 + k) % 3 = 2 by omega]
    · rw [show (0 + k) % 3 = 1 by omega, show (1 + k) % 3 = 2 by omega, show (2 + k) % 3 = 0 by omega]
      unfold crossI; grind
    · rw [show (0 + k) % 3 = 2 by omega, show (1 + k) % 3 = 0 by omega, show (2 + k) % 3 = 1 by omega]
      unfold crossI; grind
  rw [e] at this
  exact this
theorem turn_tri {p : Nat → Int × Int} (h : Simp 3 p) : turnW 3 p = 1 - kap 3 p := by
  have k := tri_kap h
  have a0 := h.at_post (i := 0) (by omega)
  have a1 := h.at_post (i := 1) (by omega)
  have a2 := h.at_post (i := 2) (by omega)
  have e0 : suc 3 0 = 1 := rfl
  have e1 : suc 3 1 = 2 := rfl
  have e2 : suc 3 2 = 0 := rfl
  rw [e0, e1] at a0
  rw [e1, e2] at a1
  rw [e2, e0] at a2
  have n0 := pt_ne (h.ne 0 (by omega))
  have n1 := pt_ne (h.ne 1 (by omega))
  have n2 := pt_ne (h.ne 2 (by omega))
  rw [e0] at n0
  rw [e1] at n1
  rw [e2] at n2
  have c0 : crossI (p 1) (p 0) (p 2) = - crossI (p 0) (p 1) (p 2) := cross_swap _ _ _
  have c1 : crossI (p 2) (p 1) (p 0) = - crossI (p 0) (p 1) (p 2) := by unfold crossI; grind
  have c2 : crossI (p 0) (p 2) (p 1) = - crossI (p 0) (p 1) (p 2) := by unfold crossI; grind
  unfold turnW
  simp only [sumI, e0, e1, e2]
  have key : lowI (p 0) (p 1) + lowI (p 1) (p 2) + lowI (p 2) (p 0) - psi (p 0) (p 1) (p 2) - psi (p 1) (p 2) (p 0) - psi (p 2) (p 0) (p 1) = 1 + 2 * kap 3 p := by
    unfold psi
    rw [c0, c1, c2]
    generalize crossI (p 0) (p 1) (p 2) = C at *
    have l01 : Low (p 1) (p 0) ↔ ¬ Low (p 0) (p 1) := by unfold Low; omega
    have l12 : Low (p 2) (p 1) ↔ ¬ Low (p 1) (p 2) := by unfold Low; omega
    have l20 : Low (p 0) (p 2) ↔ ¬ Low (p 2) (p 0) := by unfold Low; omega
    have all1 : ¬ (Low (p 0) (p 1) ∧ Low (p 1) (p 2) ∧ Low (p 2) (p 0)) := by unfold Low; omega
    have all0 : ¬ (¬ Low (p 0) (p 1) ∧ ¬ Low (p 1) (p 2) ∧ ¬ Low (p 2) (p 0)) := by unfold Low; omega
    have r : ∀ (P Q R : Prop) [Decidable P] [Decidable Q] [Decidable R], (R ↔ ¬ P) → (if (¬ R ∧ Q) ∨ ((R ↔ Q) ∧ 0 < -C) then (1 : Int) else 0) = if P then (if Q then 1 else (if 0 < -C then 1 else 0)) else (if Q then (if 0 < -C then 1 else 0) else 0) := by
      intro P Q R _ _ _ hR
      by_cases hP : P <;> by_cases hQ : Q <;> simp [hP, hQ, hR]
    rw [r _ _ _ l01, r _ _ _ l12, r _ _ _ l20]
    unfold lowI
    have fin : ∀ (X Y Z : Prop) [Decidable X] [Decidable Y] [Decidable Z], ¬ (X ∧ Y ∧ Z) → ¬ (¬ X ∧ ¬ Y ∧ ¬ Z) → ∀ t K : Int, (t = 0 ∧ K = 0 ∨ t = 1 ∧ K = -1) →
        (if X then (1 : Int) else 0) + (if Y then 1 else 0) + (if Z then 1 else 0) - (if X then (if Y then 1 else t) else (if Y then t else 0)) - (if Y then (if Z then 1 else t) else (if Z then t else 0)) - (if Z then (if X then 1 else t) else (if X then t else 0)) = 1 + 2 * K := by
      intro X Y Z _ _ _ h1 h0 t K ht
      by_cases x : X <;> by_cases y : Y <;> by_cases z : Z
      · exact absurd ⟨x, y, z⟩ h1
      · simp only [if_pos x, if_pos y, if_neg z]; omega
      · simp only [if_pos x, if_neg y, if_pos z]; omega
      · simp only [if_pos x, if_neg y, if_neg z]; omega
      · simp only [if_neg x, if_pos y, if_pos z]; omega
      · simp only [if_neg x, if_pos y, if_neg z]; omega
      · simp only [if_neg x, if_neg y, if_pos z]; omega
      · exact absurd ⟨x, y, z⟩ h0
    refine fin _ _ _ all1 all0 (if 0 < -C then 1 else 0) (kap 3 p) ?_
    clear fin r all1 all0 l01 l12 l20 n0 n1 n2 a0 a1 a2
    split <;> omega
  omega
/-- A point of a line on the way between points on both sides of another line. -/
theorem on_of_opp {x y c d : Int × Int} (h : Opp (crossI x y c) (crossI x y d)) (h0 : crossI c d x = 0) : OnP c d x := by
  have e1 : (crossI x y d - crossI x y c) * x.1 = crossI x y d * c.1 - crossI x y c * d.1 := by
    have : (crossI x y d - crossI x y c) * x.1 - (crossI x y d * c.1 - crossI x y c * d.1) = crossI c d x * (x.1 - y.1) := by unfold crossI; grind
    rw [h0, Int.zero_mul] at this
    omega
  have e2 : (crossI x y d - crossI x y c) * x.2 = crossI x y d * c.2 - crossI x y c * d.2 := by
    have : (crossI x y d - crossI x y c) * x.2 - (crossI x y d * c.2 - crossI x y c * d.2) = crossI c d x * (x.2 - y.2) := by unfold crossI; grind
    rw [h0, Int.zero_mul] at this
    omega
  generalize crossI x y c = A at *
  generalize crossI x y d = B at *
  unfold Opp at h
  rcases h with h | h
  · exact bet_on (k := B - A) (l := -A) ⟨by omega, by omega, by omega, by grind, by grind⟩
  · exact bet_on (k := A - B) (l := A) ⟨by omega, by omega, by omega, by grind, by grind⟩
theorem meet_of {u v c d : Int × Int} (h : Opp (crossI u v c) (crossI u v d)) (hu : 0 ≤ crossI c d u) (hv : crossI c d v ≤ 0) : MeetP u v c d := by
  by_cases h1 : crossI c d u = 0
  · exact .inr (.inr (.inl (on_of_opp h h1)))
  · by_cases h2 : crossI c d v = 0
    · refine .inr (.inr (.inr (.inl (on_of_opp (y := u) ?_ h2))))
      rw [cross_swap u v c, cross_swap u v d]
      exact Opp_neg.2 h
    · exact .inr (.inr (.inr (.inr ⟨h, .inr ⟨by omega, by omega⟩⟩)))
/-- A side that leaves a triangle u v w, but not through w u, meets u v or v w. -/
theorem leaves {u v w c d : Int × Int} (ht : 0 < crossI u v w) {m k : Int} (hm : 0 < m) (hk : 0 < k) (hA : 0 < crossI w u c)
    (tA : 0 ≤ m * crossI w u c + k * crossI w u d) (tB : 0 ≤ m * crossI u v c + k * crossI u v d) (tC : 0 ≤ m * crossI v w c + k * crossI v w d)
    (hc : crossI u v c < 0 ∨ crossI v w c < 0) :
    (MeetP u v c d ∧ crossI u v c < 0 ∧ 0 < crossI u v d) ∨ (MeetP v w c d ∧ crossI v w c < 0 ∧ 0 < crossI v w d) := by
  have i1 : crossI u v d * crossI w u c - crossI u v c * crossI w u d = crossI u v w * crossI c d u := by unfold crossI; grind
  have i2 : crossI v w d * crossI u v c - crossI v w c * crossI u v d = crossI u v w * crossI c d v := by unfold crossI; grind
  have i3 : crossI w u d * crossI v w c - crossI w u c * crossI v w d = crossI u v w * crossI c d w := by unfold crossI; grind
  have g1 : ∀ x y z t : Int, k * (y * z - t * x) = (m * t + k * y) * z - t * (m * z + k * x) := fun x y z t => by grind
  have sgn : ∀ x : Int, 0 ≤ k * (crossI u v w * x) → 0 ≤ x := fun x h => by
    have m1 := sg_mul k (crossI u v w * x)
    have m2 := sg_mul (crossI u v w) x
    omega
  have sgn' : ∀ x : Int, k * (crossI u v w * x) ≤ 0 → x ≤ 0 := fun x h => by
    have m1 := sg_mul k (crossI u v w * x)
    have m2 := sg_mul (crossI u v w) x
    omega
  have other : ∀ x y : Int, x < 0 → 0 ≤ m * x + k * y → 0 < y := fun x y h1 h2 => by
    have m1 := sg_mul m x
    have m2 := sg_mul k y
    omega
  by_cases hB : crossI u v c < 0
  · have hBd := other _ _ hB tB
    have X1 : 0 ≤ crossI c d u := by
      refine sgn _ ?_
      rw [← i1, g1]
      have := Int.mul_nonneg tB (Int.le_of_lt hA)
      have := Int.mul_nonpos_of_nonpos_of_nonneg (Int.le_of_lt hB) tA
      omega
    by_cases hv : crossI c d v ≤ 0
    · exact .inl ⟨meet_of (.inl ⟨hB, hBd⟩) X1 hv, hB, hBd⟩
    · have hC : crossI v w c < 0 := by
        rcases Int.lt_or_le (crossI v w c) 0 with h | h
        · exact h
        · exfalso
          have e := g1 (crossI v w d) (crossI u v d) (crossI v w c) (crossI u v c)
          have p1 := Int.mul_nonneg tB h
          have p2 := Int.mul_nonpos_of_nonpos_of_nonneg (Int.le_of_lt hB) tC
          have : 0 ≤ k * (crossI u v w * (- crossI c d v)) := by rw [Int.mul_neg, ← i2]; grind
          have := sgn _ this
          omega
      have hCd := other _ _ hC tC
      have X2 : crossI c d w ≤ 0 := by
        refine sgn' _ ?_
        rw [← i3]
        have e := g1 (crossI w u d) (crossI v w d) (crossI w u c) (crossI v w c)
        have p1 := Int.mul_nonneg tC (Int.le_of_lt hA)
        have p2 := Int.mul_nonpos_of_nonpos_of_nonneg (Int.le_of_lt hC) tA
        grind
      exact .inr ⟨meet_of (.inl ⟨hC, hCd⟩) (by omega) X2, hC, hCd⟩
  · have hC : crossI v w c < 0 := by omega
    have hCd := other _ _ hC tC
    have X1 : 0 ≤ crossI c d v := by
      refine sgn _ ?_
      rw [← i2, g1]
      have := Int.mul_nonneg tC (show 0 ≤ crossI u v c by omega)
      have := Int.mul_nonpos_of_nonpos_of_nonneg (Int.le_of_lt hC) tB
      omega
    have X2 : crossI c d w ≤ 0 := by
      refine sgn' _ ?_
      rw [← i3]
      have e := g1 (crossI w u d) (crossI v w d) (crossI w u c) (crossI v w c)
      have p1 := Int.mul_nonneg tC (Int.le_of_lt hA)
      have p2 := Int.mul_nonpos_of_nonpos_of_nonneg (Int.le_of_lt hC) tA
      grind
    exact .inr ⟨meet_of (.inl ⟨hC, hCd⟩) X1 X2, hC, hCd⟩
/-- In the triangle, or on its border. -/
def InT (u v w x : Int × Int) : Prop := 0 ≤ crossI u v x ∧ 0 ≤ crossI v w x ∧ 0 ≤ crossI w u x
theorem tri_sum (u v w x : Int × Int) : crossI u v x + crossI v w x + crossI w u x = crossI u v w := by unfold crossI; grind
theorem on_in {u v w x : Int × Int} (ht : 0 < crossI u v w) (h : OnP u w x) : InT u v w x := by
  obtain ⟨k, l, B⟩ := on_bet h
  have e1 := bet_cross B u v
  have e2 := bet_cross B v w
  rw [cross_ba] at e1
  rw [cross_ab] at e2
  have e3 : crossI v w u = crossI u v w := by unfold crossI; grind
  rw [e3] at e2
  have e4 : crossI w u x = - crossI u w x := cross_swap u w x
  have := h.1
  have p1 := B.1
  have p2 := B.2.1
  have p3 := B.2.2.1
  have m1 := sg_mul k (crossI u v x)
  have m2 := sg_mul l (crossI u v w)
  have m3 := sg_mul k (crossI v w x)
  have m4 := sg_mul (k - l) (crossI u v w)
  unfold InT
  omega
/-- An ear: no end of a side is in the triangle; then no side meets u w. -/
theorem ear_clear {u v w c d : Int × Int} (ht : 0 < crossI u v w) (hc : ¬ InT u v w c) (hd : ¬ InT u v w d) (hu : ¬ OnP c d u) (hw : ¬ OnP c d w)
    (h1 : ¬ MeetP u v c d) (h2 : ¬ MeetP v w c d) : ¬ MeetP u w c d := by
  have main : ∀ c d : Int × Int, ¬ InT u v w c → ¬ MeetP u v c d → ¬ MeetP v w c d → Opp (crossI c d u) (crossI c d w) → 0 < crossI w u c → crossI w u d < 0 → False := by
    intro c d hc h1 h2 ho a1 a2
    have i1 : crossI u v d * crossI w u c - crossI u v c * crossI w u d = crossI u v w * crossI c d u := by unfold crossI; grind
    have i3 : crossI w u d * crossI v w c - crossI w u c * crossI v w d = crossI u v w * crossI c d w := by unfold crossI; grind
    have s1 := tri_sum u v w c
    have s2 := tri_sum u v w d
    -- the point of w u on the side
    have tB : 0 ≤ (- crossI w u d) * crossI u v c + crossI w u c * crossI u v d ∧ 0 ≤ (- crossI w u d) * crossI v w c + crossI w u c * crossI v w d := by
      have e1 : (- crossI w u d) * crossI u v c + crossI w u c * crossI u v d = crossI u v w * crossI c d u := by rw [← i1]; grind
      have e2 : (- crossI w u d) * crossI v w c + crossI w u c * crossI v w d = crossI u v w * (- crossI c d w) := by rw [Int.mul_neg, ← i3]; grind
      have e3 : crossI u v w * crossI c d u + crossI u v w * (- crossI c d w) = (- crossI w u d + crossI w u c) * crossI u v w := by rw [← e1, ← e2]; grind
      rw [e1, e2]
      have p := Int.mul_pos (show 0 < - crossI w u d + crossI w u c by omega) ht
      have m1 := sg_mul (crossI u v w) (crossI c d u)
      have m2 := sg_mul (crossI u v w) (- crossI c d w)
      unfold Opp at ho
      omega
    have := leaves ht (show 0 < - crossI w u d by omega) a1 a1 (by grind) tB.1 tB.2 (by unfold InT at hc; omega)
    rcases this with ⟨h, _⟩ | ⟨h, _⟩
    · exact h1 h
    · exact h2 h
  rintro (h | h | h | h | ⟨g1, g2⟩)
  · exact hc (on_in ht h)
  · exact hd (on_in ht h)
  · exact hu h
  · exact hw h
  · have e1 : crossI u w c = - crossI w u c := cross_swap w u c
    have e2 : crossI u w d = - crossI w u d := cross_swap w u d
    rw [e1, e2] at g1
    unfold Opp at g1
    rcases g1 with g1 | g1
    · exact main c d hc h1 h2 g2 (by omega) (by omega)
    · refine main d c hd (fun h => h1 ?_) (fun h => h2 ?_) ?_ (by omega) (by omega)
      · rw [MeetP_comm, MeetP_swap1, MeetP_comm]; exact h
      · rw [MeetP_comm, MeetP_swap1, MeetP_comm]; exact h
      · rw [cross_swap c d u, cross_swap c d w]; exact Opp_neg.2 g2
/-- A vertex x in the triangle, none farther from u w: no side meets v x. -/
theorem deep_clear {u v w x c d : Int × Int} (ht : 0 < crossI u v w) (hx : InT u v w x) (hxt : crossI w u x < crossI u v w)
    (hc : InT u v w c → crossI w u c ≤ crossI w u x) (hd : InT u v w d → crossI w u d ≤ crossI w u x)
    (n1 : ¬ OnP v x c) (n2 : ¬ OnP v x d) (n3 : ¬ OnP c d v) (n4 : ¬ OnP c d x)
    (h1 : crossI u v c ≠ 0 → crossI u v d ≠ 0 → ¬ MeetP u v c d) (h2 : crossI v w c ≠ 0 → crossI v w d ≠ 0 → ¬ MeetP v w c d) : ¬ MeetP v x c d := by
  have main : ∀ c d : Int × Int, (InT u v w c → crossI w u c ≤ crossI w u x) → (crossI u v c ≠ 0 → crossI u v d ≠ 0 → ¬ MeetP u v c d) → (crossI v w c ≠ 0 → crossI v w d ≠ 0 → ¬ MeetP v w c d) →
      ∀ m k p q : Int, 0 < m → 0 < k → 0 < p → 0 < q → m + k = p + q → (∀ y z : Int × Int, m * crossI y z c + k * crossI y z d = p * crossI y z x + q * crossI y z v) → crossI w u d ≤ crossI w u c → False := by
    intro c d hc h1 h2 m k p q hm hk hp hq hs hl hcd
    have a1 := hl w u
    have a2 := hl u v
    have a3 := hl v w
    have b1 : crossI w u v = crossI u v w := by unfold crossI; grind
    rw [b1] at a1
    rw [cross_ab] at a2
    rw [cross_ba] at a3
    obtain ⟨x1, x2, x3⟩ := hx
    have r1 := Int.mul_nonneg (Int.le_of_lt hp) x1
    have r2 := Int.mul_nonneg (Int.le_of_lt hp) x2
    have r3 := Int.mul_nonneg (Int.le_of_lt hp) x3
    have r4 := Int.mul_pos hq ht
    -- c is farther from u w than x
    have far : crossI w u x < crossI w u c := by
      rcases Int.lt_or_le (crossI w u x) (crossI w u c) with h | h
      · exact h
      · exfalso
        have q1 := Int.mul_le_mul_of_nonneg_left h (Int.le_of_lt hm)
        have hdx : crossI w u d ≤ crossI w u x := by omega
        have q2 := Int.mul_le_mul_of_nonneg_left hdx (Int.le_of_lt hk)
        have q3 := Int.mul_lt_mul_of_pos_left hxt hq
        have q4 : (m + k) * crossI w u x = (p + q) * crossI w u x := by rw [hs]
        rw [Int.add_mul, Int.add_mul] at q4
        omega
    have hcT : crossI u v c < 0 ∨ crossI v w c < 0 := by
      rcases Int.lt_or_le (crossI u v c) 0 with h | h
      · exact .inl h
      · rcases Int.lt_or_le (crossI v w c) 0 with h' | h'
        · exact .inr h'
        · exfalso
          have := hc ⟨h, h', by omega⟩
          omega
    rcases leaves (c := c) (d := d) ht hm hk (by omega) (by omega) (by omega) (by omega) hcT with ⟨h, k1, k2⟩ | ⟨h, k1, k2⟩
    · exact h1 (by omega) (by omega) h
    · exact h2 (by omega) (by omega) h
  have both : ∀ c d : Int × Int, (InT u v w c → crossI w u c ≤ crossI w u x) → (InT u v w d → crossI w u d ≤ crossI w u x) → (crossI u v c ≠ 0 → crossI u v d ≠ 0 → ¬ MeetP u v c d) → (crossI v w c ≠ 0 → crossI v w d ≠ 0 → ¬ MeetP v w c d) →
      crossI v x c < 0 → 0 < crossI v x d → Opp (crossI c d v) (crossI c d x) → False := by
    intro c d hc hd h1 h2 g1 g2 g3
    have e0 : crossI v x d - crossI v x c = crossI c d v - crossI c d x := by unfold crossI; grind
    have hl : ∀ y z : Int × Int, crossI v x d * crossI y z c + (- crossI v x c) * crossI y z d = crossI c d v * crossI y z x + (- crossI c d x) * crossI y z v := fun y z => by unfold crossI; grind
    have hg : crossI c d x < 0 ∧ 0 < crossI c d v := by unfold Opp at g3; omega
    rcases Int.le_total (crossI w u d) (crossI w u c) with h | h
    · exact main c d hc h1 h2 _ _ _ _ g2 (by omega) hg.2 (by omega) (by omega) hl h
    · refine main d c hd (fun a b h => h1 b a ?_) (fun a b h => h2 b a ?_) (- crossI v x c) (crossI v x d) _ (- crossI c d x) (by omega) g2 hg.2 (by omega) (by omega) (fun y z => by have := hl y z; omega) h
      · rw [MeetP_comm, MeetP_swap1, MeetP_comm]; exact h
      · rw [MeetP_comm, MeetP_swap1, MeetP_comm]; exact h
  rintro (h | h | h | h | ⟨g1, g2⟩)
  · exact n1 h
  · exact n2 h
  · exact n3 h
  · exact n4 h
  · rcases g1 with g1 | g1
    · exact both c d hc hd h1 h2 g1.1 g1.2 g2
    · refine both d c hd hc (fun a b h => h1 b a ?_) (fun a b h => h2 b a ?_) g1.1 g1.2 ?_
      · rw [MeetP_comm, MeetP_swap1, MeetP_comm]; exact h
      · rw [MeetP_comm, MeetP_swap1, MeetP_comm]; exact h
      · rw [cross_swap c d v, cross_swap c d x]; exact Opp_neg.2 g2
theorem argmax (P : Nat → Prop) (f : Nat → Int) (N : Nat) (h : ∃ k, k < N ∧ P k) : ∃ k, k < N ∧ P k ∧ ∀ j, j < N → P j → f j ≤ f k := by
  induction N with
  | zero => obtain ⟨k, hk, _⟩ := h; omega
  | succ N ih =>
    by_cases h1 : ∃ k, k < N ∧ P k
    · obtain ⟨k, hk, hP, hm⟩ := ih h1
      by_cases h2 : P N ∧ f k < f N
      · refine ⟨N, by omega, h2.1, fun j hj hPj => ?_⟩
        by_cases hjN : j = N
        · subst hjN; exact Int.le_refl _
        · have := hm j (by omega) hPj; omega
      · refine ⟨k, by omega, hP, fun j hj hPj => ?_⟩
        by_cases hjN : j = N
        · subst hjN
          rcases Int.lt_or_le (f k) (f j) with h | h
          · exact absurd ⟨hPj, h⟩ h2
          · exact h
        · exact hm j (by omega) hPj
    · obtain ⟨k, hk, hP⟩ := h
      refine ⟨k, hk, hP, fun j hj hPj => ?_⟩
      have e1 : k = N := by
        rcases Nat.lt_or_ge k N with h | h
        · exact absurd ⟨k, h, hP⟩ h1
        · omega
      have e2 : j = N := by
        rcases Nat.lt_or_ge j N with h | h
        · exact absurd ⟨j, h, hPj⟩ h1
        · omega
      rw [e1, e2]; exact Int.le_refl _
theorem in_on {u v w x : Int × Int} (ht : 0 < crossI u v w) (h : InT u v w x) (h0 : crossI u v x = 0) : OnP u v x := by
  obtain ⟨_, h2, h3⟩ := h
  have s := tri_sum u v w x
  have e1 : crossI u v w * (x.1 - u.1) = crossI w u x * (v.1 - u.1) + crossI u v x * (w.1 - u.1) := by unfold crossI; grind
  have e2 : crossI u v w * (x.2 - u.2) = crossI w u x * (v.2 - u.2) + crossI u v x * (w.2 - u.2) := by unfold crossI; grind
  rw [h0, Int.zero_mul, Int.add_zero] at e1 e2
  exact bet_on (k := crossI u v w) (l := crossI w u x) ⟨ht, h3, by omega, e1, e2⟩
theorem in_on' {u v w x : Int × Int} (ht : 0 < crossI u v w) (h : InT u v w x) (h0 : crossI v w x = 0) : OnP v w x := by
  obtain ⟨h1, _, h3⟩ := h
  have s := tri_sum u v w x
  have e1 : crossI u v w * (x.1 - v.1) = crossI u v x * (w.1 - v.1) + crossI v w x * (u.1 - v.1) := by unfold crossI; grind
  have e2 : crossI u v w * (x.2 - v.2) = crossI u v x * (w.2 - v.2) + crossI v w x * (u.2 - v.2) := by unfold crossI; grind
  rw [h0, Int.zero_mul, Int.add_zero] at e1 e2
  exact bet_on (k := crossI u v w) (l := crossI u v x) ⟨ht, h1, by omega, e1, e2⟩
/-- At post 1: its neighbours see each other, or it sees a post in the triangle. -/
theorem Simp.pick {n : Nat} {p : Nat → Int × Int} (h : Simp n p) (hn : 4 ≤ n) {iu iw : Nat} (hi : iu = 0 ∧ iw = 2 ∨ iu = 2 ∧ iw = 0) (ht : 0 < crossI (p iu) (p 1) (p iw)) :
    ((∀ k, 3 ≤ k → k < n → ¬ InT (p iu) (p 1) (p iw) (p k)) ∧ (∀ k, k < n → k ≠ 0 → k ≠ 2 → ¬ OnP (p iu) (p iw) (p k)) ∧
      ∀ k, k < n → k ≠ 0 → k ≠ 2 → suc n k ≠ 0 → suc n k ≠ 2 → ¬ MeetP (p iu) (p iw) (p k) (p (suc n k))) ∨
    ∃ k, 3 ≤ k ∧ k < n ∧ 0 < crossI (p iu) (p 1) (p k) ∧ 0 < crossI (p 1) (p iw) (p k) ∧ (∀ m, m < n → m ≠ 1 → m ≠ k → ¬ OnP (p 1) (p k) (p m)) ∧
      ∀ m, m < n → m ≠ 1 → m ≠ k → suc n m ≠ 1 → suc n m ≠ k → ¬ MeetP (p 1) (p k) (p m) (p (suc n m)) := by
  obtain ⟨s0, s1, s2⟩ := suc01 h.h3
  have F1 : ∀ m, m < n → m ≠ iu → m ≠ 1 → suc n m ≠ iu → suc n m ≠ 1 → ¬ MeetP (p iu) (p 1) (p m) (p (suc n m)) := by
    intro m hm a b c d
    rcases hi with ⟨e1, e2⟩ | ⟨e1, e2⟩
    · subst e1
      have := h.far 0 m (by omega) hm a (by rw [s0]; exact b) (fun e => c e.symm)
      rwa [s0] at this
    · subst e1
      have := h.far 1 m (by omega) hm b (by rw [s1]; exact a) (fun e => d e.symm)
      rw [s1] at this
      rw [MeetP_swap1]; exact this
  have F2 : ∀ m, m < n → m ≠ iw → m ≠ 1 → suc n m ≠ iw → suc n m ≠ 1 → ¬ MeetP (p 1) (p iw) (p m) (p (suc n m)) := by
    intro m hm a b c d
    rcases hi with ⟨e1, e2⟩ | ⟨e1, e2⟩
    · subst e2
      have := h.far 1 m (by omega) hm b (by rw [s1]; exact a) (fun e => d e.symm)
      rwa [s1] at this
    · subst e2
      have := h.far 0 m (by omega) hm a (by rw [s0]; exact b) (fun e => c e.symm)
      rw [s0] at this
      rw [MeetP_swap1]; exact this
  have G1 : ∀ k, k < n → k ≠ iu → k ≠ 1 → ¬ OnP (p iu) (p 1) (p k) := by
    intro k hk a b
    rcases hi with ⟨e1, e2⟩ | ⟨e1, e2⟩
    · subst e1
      have := h.post_off (i := 0) (k := k) (by omega) hk a (by rw [s0]; exact b)
      rwa [s0] at this
    · subst e1
      have := h.post_off (i := 1) (k := k) (by omega) hk b (by rw [s1]; exact a)
      rw [s1] at this
      exact fun ho => this (OnP_swap.1 ho)
  have G2 : ∀ k, k < n → k ≠ iw → k ≠ 1 → ¬ OnP (p 1) (p iw) (p k) := by
    intro k hk a b
    rcases hi with ⟨e1, e2⟩ | ⟨e1, e2⟩
    · subst e2
      have := h.post_off (i := 1) (k := k) (by omega) hk b (by rw [s1]; exact a)
      rwa [s1] at this
    · subst e2
      have := h.post_off (i := 0) (k := k) (by omega) hk a (by rw [s0]; exact b)
      rw [s0] at this
      exact fun ho => this (OnP_swap.1 ho)
  have hiu : iu < n := by omega
  have hiw : iw < n := by omega
  by_cases hex : ∃ k, k < n ∧ (3 ≤ k ∧ InT (p iu) (p 1) (p iw) (p k))
  · right
    obtain ⟨k, hk, ⟨hk3, hT⟩, hmax⟩ := argmax _ (fun k => crossI (p iw) (p iu) (p k)) n hex
    have hB : 0 < crossI (p iu) (p 1) (p k) := by
      have := hT.1
      rcases Int.lt_or_le 0 (crossI (p iu) (p 1) (p k)) with h | h
      · exact h
      · exact absurd (in_on ht hT (by omega)) (G1 k hk (by omega) (by omega))
    have hC : 0 < crossI (p 1) (p iw) (p k) := by
      have := hT.2.1
      rcases Int.lt_or_le 0 (crossI (p 1) (p iw) (p k)) with h | h
      · exact h
      · exact absurd (in_on' ht hT (by omega)) (G2 k hk (by omega) (by omega))
    have hs := tri_sum (p iu) (p 1) (p iw) (p k)
    have hxt : crossI (p iw) (p iu) (p k) < crossI (p iu) (p 1) (p iw) := by omega
    have hle : ∀ m, m < n → m ≠ 1 → InT (p iu) (p 1) (p iw) (p m) → crossI (p iw) (p iu) (p m) ≤ crossI (p iw) (p iu) (p k) := by
      intro m hm h1 hTm
      have hA := hT.2.2
      by_cases hmu : m = iu
      · rw [hmu, cross_ab]; exact hA
      · by_cases hmw : m = iw
        · rw [hmw, cross_ba]; exact hA
        · exact hmax m hm ⟨by omega, hTm⟩
    have c1 : ∀ m, m < n → m ≠ 1 → m ≠ k → ¬ OnP (p 1) (p k) (p m) := by
      intro m hm h1 hmk ho
      obtain ⟨K, l, B⟩ := on_bet ho
      have l0 : l ≠ 0 := fun e => by subst e; exact h1 (h.inj hm (by omega) (bet_first B))
      have lK : l ≠ K := fun e => by subst e; exact hmk (h.inj hm hk (bet_last B))
      have p1 := B.1
      have p2 := B.2.1
      have p3 := B.2.2.1
      have f1 := bet_cross B (p iu) (p 1)
      have f2 := bet_cross B (p 1) (p iw)
      have f3 := bet_cross B (p iw) (p iu)
      rw [cross_ab] at f1
      rw [cross_ba] at f2
      have e3 : crossI (p iw) (p iu) (p 1) = crossI (p iu) (p 1) (p iw) := by unfold crossI; grind
      rw [e3] at f3
      have m1 := sg_mul K (crossI (p iu) (p 1) (p m))
      have m2 := sg_mul l (crossI (p iu) (p 1) (p k))
      have m3 := sg_mul K (crossI (p 1) (p iw) (p m))
      have m4 := sg_mul l (crossI (p 1) (p iw) (p k))
      have q1 := Int.mul_lt_mul_of_pos_left hxt (show 0 < K - l by omega)
      have q2 : (K - l) * crossI (p iw) (p iu) (p k) + l * crossI (p iw) (p iu) (p k) = K * crossI (p iw) (p iu) (p k) := by grind
      have q3 : crossI (p iw) (p iu) (p k) < crossI (p iw) (p iu) (p m) := by
        have : K * crossI (p iw) (p iu) (p k) < K * crossI (p iw) (p iu) (p m) := by omega
        exact Int.lt_of_mul_lt_mul_left this (by omega)
      have hA := hT.2.2
      have := hle m hm h1 ⟨by omega, by omega, by omega⟩
      omega
    refine ⟨k, hk3, hk, hB, hC, c1, fun m hm a b c d => ?_⟩
    have hsm := suc_lt hm
    have N3 : ¬ OnP (p m) (p (suc n m)) (p 1) := h.post_off hm (by omega) (fun e => a e.symm) (fun e => c e.symm)
    have N4 : ¬ OnP (p m) (p (suc n m)) (p k) := h.post_off hm hk (fun e => b e.symm) (fun e => d e.symm)
    refine deep_clear ht hT hxt (hle m hm a) (hle _ hsm c) (c1 m hm a b) (c1 _ hsm c d) N3 N4 (fun z1 z2 => F1 m hm ?_ a ?_ c) (fun z1 z2 => F2 m hm ?_ a ?_ c)
    · intro e; rw [e, cross_ba] at z1; exact z1 rfl
    · intro e; rw [e, cross_ba] at z2; exact z2 rfl
    · intro e; rw [e, cross_ab] at z1; exact z1 rfl
    · intro e; rw [e, cross_ab] at z2; exact z2 rfl
  · left
    have hno : ∀ k, 3 ≤ k → k < n → ¬ InT (p iu) (p 1) (p iw) (p k) := fun k h3 hk hT => hex ⟨k, hk, h3, hT⟩
    refine ⟨hno, fun k hk h0 h2 ho => ?_, fun k hk h0 h2 hs0 hs2 => ?_⟩
    · by_cases hk1 : k = 1
      · subst hk1
        have e : crossI (p iu) (p iw) (p 1) = - crossI (p iu) (p 1) (p iw) := by unfold crossI; grind
        have := ho.1
        omega
      · exact hno k (by omega) hk (on_in ht ho)
    · have hsm := suc_lt hk
      have hk1 : k ≠ 1 := fun e => by subst e; exact hs2 s1
      have hs1 : suc n k ≠ 1 := fun e => by rw [← s0] at e; exact h0 (suc_inj hk (by omega) e)
      have a1 : k ≠ iu := by omega
      have a2 : k ≠ iw := by omega
      have a3 : suc n k ≠ iu := by omega
      have a4 : suc n k ≠ iw := by omega
      exact ear_clear ht (hno k (by omega) hk) (hno _ (by omega) hsm) (h.post_off hk hiu (fun e => a1 e.symm) (fun e => a3 e.symm)) (h.post_off hk hiw (fun e => a2 e.symm) (fun e => a4 e.symm))
        (F1 k hk a1 hk1 a3 hs1) (F2 k hk a2 hk1 a4 hs1)
/-- The turn at the least post, wherever it stands. -/
theorem Simp.least_of {n : Nat} {p : Nat → Int × Int} (h : Simp n p) {i : Nat} (hi : i < n) (hl : ∀ k, k < n → k ≠ suc n i → Lex (p (suc n i)) (p k)) :
    (0 < crossI (p i) (p (suc n i)) (p (suc n (suc n i))) ∧ kap n p = 0) ∨ (crossI (p i) (p (suc n i)) (p (suc n (suc n i))) < 0 ∧ kap n p = -1) := by
  have h3 := h.h3
  have r0 : rotK n p i 0 = p i := by unfold rotK; rw [Nat.zero_add, Nat.mod_eq_of_lt hi]
  have r1 : rotK n p i 1 = p (suc n i) := by unfold rotK suc; rw [Nat.add_comm 1 i]
  have r2 : rotK n p i 2 = p (suc n (suc n i)) := by rw [suc2]; unfold rotK; rw [Nat.add_comm 2 i]
  have := (h.begun i).least (fun k hk hk1 => by
    rw [r1]
    unfold rotK
    refine hl _ (Nat.mod_lt _ (by omega)) (fun e => hk1 ?_)
    unfold suc at e
    rcases Nat.lt_or_ge (k + i) n with g1 | g1 <;> rcases Nat.lt_or_ge (i + 1) n with g2 | g2
    · rw [Nat.mod_eq_of_lt g1, Nat.mod_eq_of_lt g2] at e; omega
    · rw [Nat.mod_eq_of_lt g1, show i + 1 = n by omega, Nat.mod_self] at e; omega
    · rw [Nat.mod_eq_sub_mod g1, Nat.mod_eq_of_lt (show k + i - n < n by omega), Nat.mod_eq_of_lt g2] at e; omega
    · rw [Nat.mod_eq_sub_mod g1, Nat.mod_eq_of_lt (show k + i - n < n by omega), show i + 1 = n by omega, Nat.mod_self] at e; omega)
  rw [kap_rotK h, r0, r1, r2] at this
  exact this
theorem turnW_rot (n : Nat) (p : Nat → Int × Int) : turnW n (rotP n p) = turnW n p := by
  unfold turnW
  have e1 : sumI (fun i => lowI (rotP n p i) (rotP n p (suc n i))) n = sumI (fun i => lowI (p i) (p (suc n i))) n := sumI_round (fun i => lowI (p i) (p (suc n i))) n
  have e2 : sumI (fun i => cP n (rotP n p) (rotP n p i)) n = sumI (fun i => cP n p (p i)) n := by
    have e : ∀ i, i < n → cP n (rotP n p) (rotP n p i) = (fun j => cP n p (p j)) ((i + 1) % n) := fun i _ => cP_rot n p _
    exact (sumI_congr e).trans (sumI_round (fun j => cP n p (p j)) n)
  rw [e1, e2]
theorem turnW_rotK {n : Nat} {p : Nat → Int × Int} (k : Nat) : turnW n (rotK n p k) = turnW n p := by
  induction k with
  | zero =>
    have e : ∀ i, i < n → rotK n p 0 i = p i := fun i hi => by simp [rotK, Nat.mod_eq_of_lt hi]
    unfold turnW
    have e1 : ∀ i, i < n → lowI (rotK n p 0 i) (rotK n p 0 (suc n i)) = lowI (p i) (p (suc n i)) := fun i hi => by rw [e i hi, e _ (suc_lt hi)]
    have e2 : ∀ i, i < n → cP n (rotK n p 0) (rotK n p 0 i) = cP n p (p i) := fun i hi => by rw [e i hi, cP_rotK]
    rw [sumI_congr e1, sumI_congr e2]
  | succ k ih => rw [rotK_succ, turnW_rot, ih]
theorem turn_ear {n : Nat} {p : Nat → Int × Int} (h : Simp n p) (hn : 4 ≤ n) (hl : ∀ i, i < n → i ≠ 1 → Lex (p 1) (p i)) (d : Diag n p 2)
    (hno : ∀ k, 3 ≤ k → k < n → (0 < crossI (p 0) (p 1) (p 2) ∧ ¬ (0 ≤ crossI (p 0) (p 1) (p k) ∧ 0 ≤ crossI (p 1) (p 2) (p k) ∧ 0 ≤ crossI (p 2) (p 0) (p k))) ∨ (crossI (p 0) (p 1) (p 2) < 0 ∧ ¬ (crossI (p 0) (p 1) (p k) ≤ 0 ∧ crossI (p 1) (p 2) (p k) ≤ 0 ∧ crossI (p 2) (p 0) (p k) ≤ 0))) :
    kap 3 p = kap n p ∧ kap (n - 2 + 1) (rotK n p 2) = kap n p := by
  have hT : Simp 3 p := h.cut d
  have k1 := tri_kap hT
  have k2 := h.least hl
  refine ⟨by omega, ?_⟩
  have hP : Simp (n - 2 + 1) (rotK n p 2) := (h.begun 2).cut d.sym
  have a1 := h.at_post (i := 2) (by omega)
  have a2 := hP.at_post (i := 0) (by omega)
  have e2 : suc n 2 = 3 := suc_in (by omega)
  have f0 : suc (n - 2 + 1) 0 = 1 := suc_in (by omega)
  have f1 : suc (n - 2 + 1) 1 = 2 := suc_in (by omega)
  have r0 : rotK n p 2 0 = p 2 := by unfold rotK; rw [Nat.zero_add, Nat.mod_eq_of_lt (by omega)]
  have r1 : rotK n p 2 1 = p 3 := by unfold rotK; rw [Nat.mod_eq_of_lt (show 1 + 2 < n by omega)]
  have r2 : rotK n p 2 2 = p (suc n 3) := rfl
  rw [e2] at a1
  rw [f0, f1, r0, r1, r2] at a2
  have c := cP_parts n p (j := 2) (by omega) (by omega) (p 3)
  have t := tri_out (hno 3 (by omega) (by omega))
  have z : cP 3 p (p 3) = 0 := by
    unfold cP
    simp only [sumI]
    have s0 : suc 3 0 = 1 := rfl
    have s1 : suc 3 1 = 2 := rfl
    have s2 : suc 3 2 = 0 := rfl
    rw [s0, s1, s2]
    omega
  have c' : cP n p (p 3) = cP 3 p (p 3) + cP (n - 2 + 1) (rotK n p 2) (p 3) := c
  omega
theorem turn_deep {n : Nat} {p : Nat → Int × Int} (h : Simp n p) (hl : ∀ i, i < n → i ≠ 1 → Lex (p 1) (p i)) {k : Nat} (h3 : 3 ≤ k) (hk : k < n) (d : Diag n (rotP n p) (k - 1))
    (hs : (0 < crossI (p 0) (p 1) (p 2) ∧ 0 < crossI (p 0) (p 1) (p k) ∧ 0 < crossI (p 1) (p 2) (p k)) ∨ (crossI (p 0) (p 1) (p 2) < 0 ∧ crossI (p 0) (p 1) (p k) < 0 ∧ crossI (p 1) (p 2) (p k) < 0)) :
    kap (k - 1 + 1) (rotP n p) = kap n (rotP n p) ∧ kap (n - (k - 1) + 1) (rotK n (rotP n p) (k - 1)) = kap n (rotP n p) := by
  have k0 := h.least hl
  have hR := h.rot
  have e0 : kap n (rotP n p) = kap n p := by
    have := kap_rotK h 1
    rw [show rotK n p 1 = rotP n p from rfl] at this
    exact this
  have q : ∀ i, i + 1 < n → rotP n p i = p (i + 1) := fun i hi => by unfold rotP; rw [suc_in hi]
  have qn : rotP n p (n - 1) = p 0 := by unfold rotP; rw [show suc n (n - 1) = 0 by unfold suc; rw [show n - 1 + 1 = n by omega, Nat.mod_self]]
  have lex : ∀ i, i < n → i ≠ 0 → Lex (p 1) (rotP n p i) := fun i hi h0 => by
    unfold rotP
    refine hl _ (suc_lt hi) (fun e => h0 ?_)
    have : suc n 0 = 1 := suc_in (by omega)
    rw [← this] at e
    exact suc_inj hi (by omega) e
  rw [e0]
  constructor
  · have hP := hR.cut d
    have f1 : suc (k - 1 + 1) (k - 1) = 0 := suc_last _
    have f2 : suc (k - 1 + 1) 0 = 1 := suc_in (by omega)
    have := hP.least_of (i := k - 1) (by omega) (fun m hm hm0 => by
      rw [f1] at hm0 ⊢
      rw [q 0 (by omega)]
      exact lex m (by omega) hm0)
    rw [f1, f2, q 0 (by omega), q 1 (by omega), q (k - 1) (by omega), show k - 1 + 1 = k by omega] at this
    rw [show k - 1 + 1 = k by omega]
    have e : crossI (p k) (p (0 + 1)) (p (1 + 1)) = crossI (p 1) (p 2) (p k) := by unfold crossI; grind
    rw [e] at this
    omega
  · have hP := (hR.begun (k - 1)).cut d.sym
    have r0 : ∀ i, i ≤ n - (k - 1) → rotK n (rotP n p) (k - 1) i = if i = n - (k - 1) then p 1 else rotP n p (i + (k - 1)) := fun i hi => by
      unfold rotK
      split
      · next e => rw [e, show n - (k - 1) + (k - 1) = n by omega, Nat.mod_self, q 0 (by omega)]
      · rw [Nat.mod_eq_of_lt (by omega)]
    have f1 : suc (n - (k - 1) + 1) (n - (k - 1) - 1) = n - (k - 1) := by rw [suc_in (by omega)]; omega
    have f2 : suc (n - (k - 1) + 1) (n - (k - 1)) = 0 := suc_last _
    have := hP.least_of (i := n - (k - 1) - 1) (by omega) (fun m hm hm0 => by
      rw [f1] at hm0 ⊢
      rw [r0 _ (Nat.le_refl _), if_pos rfl, r0 m (by omega), if_neg hm0]
      exact lex _ (by omega) (by omega))
    rw [f1, f2, r0 _ (Nat.le_refl _), if_pos rfl, r0 0 (by omega), if_neg (by omega), r0 _ (by omega), if_neg (by omega), q (0 + (k - 1)) (by omega), show n - (k - 1) - 1 + (k - 1) = n - 1 by omega, qn, show 0 + (k - 1) + 1 = k by omega] at this
    omega
theorem Simp.turn {n : Nat} : ∀ {p : Nat → Int × Int}, Simp n p → turnW n p = 1 + (2 - (n : Int)) * kap n p := by
  induction n using Nat.strongRecOn with
  | ind n ih =>
    intro p0 h0
    by_cases hn : n = 3
    · subst hn; rw [turn_tri h0]; omega
    · obtain ⟨k0, hl⟩ := h0.least_at
      have h := h0.begun k0
      rw [← turnW_rotK k0, ← kap_rotK h0 k0]
      generalize rotK n p0 k0 = p at *
      have h3 := h.h3
      have hn4 : 4 ≤ n := by omega
      have use : ∀ (q : Nat → Int × Int), Simp n q → ∀ j, Diag n q j → kap (j + 1) q = kap n q → kap (n - j + 1) (rotK n q j) = kap n q → turnW n q = 1 + (2 - (n : Int)) * kap n q := by
        intro q hq j d e1 e2
        have g2 := d.h2
        have gn := d.hn
        have t1 := ih (j + 1) (by omega) (hq.cut d)
        have t2 := ih (n - j + 1) (by omega) ((hq.begun j).cut d.sym)
        rw [turn_parts hq d e1 e2, t1, t2, e1, e2]
        have c1 : ((j + 1 : Nat) : Int) = (j : Int) + 1 := by omega
        have c2 : ((n - j + 1 : Nat) : Int) = (n : Int) - (j : Int) + 1 := by omega
        rw [c1, c2]
        grind
      have hor : 0 < crossI (p 0) (p 1) (p 2) ∨ crossI (p 0) (p 1) (p 2) < 0 := by have := h.least hl; omega
      have es : crossI (p 2) (p 1) (p 0) = - crossI (p 0) (p 1) (p 2) := cross_rev _ _ _
      have deep : ∀ k, 3 ≤ k → k < n → (∀ m, m < n → m ≠ 1 → m ≠ k → ¬ OnP (p 1) (p k) (p m)) → (∀ m, m < n → m ≠ 1 → m ≠ k → suc n m ≠ 1 → suc n m ≠ k → ¬ MeetP (p 1) (p k) (p m) (p (suc n m))) → Diag n (rotP n p) (k - 1) := by
        intro k hk3 hk c1 c2
        have q0 : rotP n p 0 = p 1 := by unfold rotP; rw [suc_in (by omega)]
        have qk : rotP n p (k - 1) = p k := by unfold rotP; rw [suc_in (by omega), show k - 1 + 1 = k by omega]
        have j1 : ∀ m, m < n → suc n m = 1 → m = 0 := fun m hm e => by
          have : suc n 0 = 1 := suc_in (by omega)
          rw [← this] at e
          exact suc_inj hm (by omega) e
        have jk : ∀ m, m < n → suc n m = k → m = k - 1 := fun m hm e => by
          have : suc n (k - 1) = k := by rw [suc_in (by omega)]; omega
          rw [← this] at e
          exact suc_inj hm (by omega) e
        refine ⟨by omega, by omega, fun m hm h0 hmk => ?_, fun m hm h0 hmk hs0 hsk => ?_⟩
        · rw [q0, qk]
          exact c1 _ (suc_lt hm) (fun e => h0 (j1 m hm e)) (fun e => hmk (jk m hm e))
        · rw [q0, qk]
          exact c2 _ (suc_lt hm) (fun e => h0 (j1 m hm e)) (fun e => hmk (jk m hm e)) (fun e => hs0 (j1 _ (suc_lt hm) e)) (fun e => hsk (jk _ (suc_lt hm) e))
      have fin : ∀ k, 3 ≤ k → k < n → Diag n (rotP n p) (k - 1) → ((0 < crossI (p 0) (p 1) (p 2) ∧ 0 < crossI (p 0) (p 1) (p k) ∧ 0 < crossI (p 1) (p 2) (p k)) ∨ (crossI (p 0) (p 1) (p 2) < 0 ∧ crossI (p 0) (p 1) (p k) < 0 ∧ crossI (p 1) (p 2) (p k) < 0)) → turnW n p = 1 + (2 - (n : Int)) * kap n p := by
        intro k hk3 hk d hs
        obtain ⟨e1, e2⟩ := turn_deep h hl hk3 hk d hs
        have := use _ h.rot _ d e1 e2
        rw [turnW_rot] at this
        have e0 : kap n (rotP n p) = kap n p := by
          have := kap_rotK h 1
          rw [show rotK n p 1 = rotP n p from rfl] at this
          exact this
        rwa [e0] at this
      rcases hor with ht | ht
      · rcases h.pick hn4 (iu := 0) (iw := 2) (.inl ⟨rfl, rfl⟩) ht with ⟨hno, c1, c2⟩ | ⟨k, hk3, hk, g1, g2, c1, c2⟩
        · have d : Diag n p 2 := ⟨by omega, by omega, c1, c2⟩
          obtain ⟨e1, e2⟩ := turn_ear h hn4 hl d (fun k a b => .inl ⟨ht, hno k a b⟩)
          exact use p h 2 d e1 e2
        · exact fin k hk3 hk (deep k hk3 hk c1 c2) (.inl ⟨ht, g1, g2⟩)
      · rcases h.pick hn4 (iu := 2) (iw := 0) (.inr ⟨rfl, rfl⟩) (by omega) with ⟨hno, c1, c2⟩ | ⟨k, hk3, hk, g1, g2, c1, c2⟩
        · have d : Diag n p 2 := ⟨by omega, by omega, fun k a b c ho => c1 k a b c (OnP_swap.1 ho), fun k a b c e f hM => c2 k a b c e f (by rw [MeetP_swap1]; exact hM)⟩
          obtain ⟨e1, e2⟩ := turn_ear h hn4 hl d (fun k a b => .inr ⟨ht, fun hk => hno k a b (by
            unfold InT
            rw [cross_swap (p 1) (p 2), cross_swap (p 0) (p 1), cross_swap (p 2) (p 0)]
            omega)⟩)
          exact use p h 2 d e1 e2
        · refine fin k hk3 hk (deep k hk3 hk c1 c2) (.inr ⟨ht, ?_, ?_⟩)
          · rw [cross_swap]; omega
          · rw [cross_swap]; omega
end Go.Proofs.Ytnjegnlfdbbleaa
