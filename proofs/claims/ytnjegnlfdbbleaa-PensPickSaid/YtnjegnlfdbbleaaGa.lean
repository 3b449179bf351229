/- Layer 1, plain geometry: polygons whose sides have no more in common than those of a pen: crossings, both sides, and the turn. -/
import Derived.Test.YtnjegnlfdbbleaaPd
namespace Go.Proofs.Ytnjegnlfdbbleaa

/-- How a side from a to b is crossed by the way from q to the right: 1 upwards, -1 downwards; an end on the way counts as below it. -/
def cE (q a b : Int × Int) : Int := (if a.2 ≤ q.2 ∧ q.2 < b.2 ∧ 0 < crossI a b q then 1 else 0) - (if b.2 ≤ q.2 ∧ q.2 < a.2 ∧ crossI a b q < 0 then 1 else 0)
/-- Is x to the right of the way from q up to m, at a height of it? -/
def fE (q m x : Int × Int) : Int := if q.2 < x.2 ∧ x.2 ≤ m.2 ∧ crossI q m x < 0 then 1 else 0
theorem cE_swap (q a b : Int × Int) : cE q b a = - cE q a b := by
  unfold cE
  rw [cross_swap a b q]
  split <;> split <;> split <;> split <;> omega
theorem on_level {a b q : Int × Int} (h : crossI a b q = 0) (h1 : a.2 ≤ q.2) (h2 : q.2 ≤ b.2) (h3 : a.2 < b.2) : OnP a b q := by
  refine ⟨h, ?_, .inl ⟨h1, h2⟩⟩
  have e : (b.2 - a.2) * (q.1 - a.1) = (q.2 - a.2) * (b.1 - a.1) := by unfold crossI at h; grind
  have := btw_mul (y := q.2 - a.2) (Y := b.2 - a.2) (z := q.1 - a.1) (Z := b.1 - a.1) (by omega) (.inl ⟨by omega, by omega⟩) e
  omega
theorem sg_pos {k x : Int} (h : 0 < k * x) (hk : 0 ≤ k) : 0 < x := by
  rcases Int.lt_or_le 0 x with h1 | h1
  · exact h1
  · have := Int.mul_nonpos_of_nonneg_of_nonpos hk h1; omega
theorem sg_neg {k x : Int} (h : k * x < 0) (hk : 0 ≤ k) : x < 0 := by
  rcases Int.lt_or_le x 0 with h1 | h1
  · exact h1
  · have := Int.mul_nonneg hk h1; omega
/-- A segment that does not meet a side: what the crossings from both of its ends have in common. -/
theorem seg_up {q m a b : Int × Int} (hqm : q.2 ≤ m.2) (hab : a.2 ≤ b.2) (hM : ¬ MeetP q m a b) : cE q a b - cE m a b = fE q m b - fE q m a := by
  have n1 : ¬ OnP q m a := fun h => hM (.inl h)
  have n2 : ¬ OnP q m b := fun h => hM (.inr (.inl h))
  have n3 : ¬ OnP a b q := fun h => hM (.inr (.inr (.inl h)))
  have n4 : ¬ OnP a b m := fun h => hM (.inr (.inr (.inr (.inl h))))
  have n5 : ¬ (Opp (crossI q m a) (crossI q m b) ∧ Opp (crossI a b q) (crossI a b m)) := fun h => hM (.inr (.inr (.inr (.inr h))))
  have i1 : crossI q m a * (b.2 - a.2) = crossI a b m * (q.2 - a.2) - crossI a b q * (m.2 - a.2) := by unfold crossI; grind
  have i2 : crossI q m b * (b.2 - a.2) = crossI a b m * (q.2 - b.2) - crossI a b q * (m.2 - b.2) := by unfold crossI; grind
  have i3 : crossI a b q * (m.2 - q.2) = crossI q m b * (a.2 - q.2) - crossI q m a * (b.2 - q.2) := by unfold crossI; grind
  have i4 : crossI a b m * (m.2 - q.2) = crossI q m b * (a.2 - m.2) - crossI q m a * (b.2 - m.2) := by unfold crossI; grind
  have z1 : q.2 < a.2 → a.2 ≤ m.2 → crossI q m a ≠ 0 := fun h1 h2 h => n1 (on_level h (by omega) h2 (by omega))
  have z2 : q.2 < b.2 → b.2 ≤ m.2 → crossI q m b ≠ 0 := fun h1 h2 h => n2 (on_level h (by omega) h2 (by omega))
  have z3 : a.2 ≤ q.2 → q.2 < b.2 → crossI a b q ≠ 0 := fun h1 h2 h => n3 (on_level h h1 (by omega) (by omega))
  have z4 : a.2 ≤ m.2 → m.2 < b.2 → crossI a b m ≠ 0 := fun h1 h2 h => n4 (on_level h h1 (by omega) (by omega))
  -- both ends of a horizontal side, or way, on both sides of a point
  have z5 : a.2 = m.2 → b.2 = m.2 → q.2 < m.2 → ¬ Opp (crossI q m a) (crossI q m b) := fun h1 h2 h3 h => by
    have e1 : crossI q m a = (m.2 - q.2) * (m.1 - a.1) := by unfold crossI; rw [h1]; grind
    have e2 : crossI q m b = (m.2 - q.2) * (m.1 - b.1) := by unfold crossI; rw [h2]; grind
    rw [e1, e2] at h
    refine n4 ⟨by unfold crossI; rw [h1, h2]; grind, ?_, by omega⟩
    rcases h with ⟨h4, h5⟩ | ⟨h4, h5⟩
    · have := sg_neg h4 (by omega); have := sg_pos h5 (by omega); omega
    · have := sg_neg h4 (by omega); have := sg_pos h5 (by omega); omega
  have z6 : q.2 = a.2 → m.2 = a.2 → a.2 < b.2 → ¬ Opp (crossI a b q) (crossI a b m) := fun h1 h2 h3 h => by
    have e1 : crossI a b q = (b.2 - a.2) * (a.1 - q.1) := by unfold crossI; rw [h1]; grind
    have e2 : crossI a b m = (b.2 - a.2) * (a.1 - m.1) := by unfold crossI; rw [h2]; grind
    rw [e1, e2] at h
    refine n1 ⟨by unfold crossI; rw [h1, h2]; grind, ?_, by omega⟩
    rcases h with ⟨h4, h5⟩ | ⟨h4, h5⟩
    · have := sg_neg h4 (by omega); have := sg_pos h5 (by omega); omega
    · have := sg_neg h4 (by omega); have := sg_pos h5 (by omega); omega
  unfold cE fE
  generalize crossI a b q = A at *
  generalize crossI a b m = B at *
  generalize crossI q m a = C at *
  generalize crossI q m b = D at *
  clear n1 n2 n3 n4 hM
  unfold Opp at *
  by_cases hA : q.2 < a.2
  · by_cases hAm : a.2 ≤ m.2
    · by_cases hB : b.2 ≤ m.2
      · -- all of the side is at the heights of the way
        have k1 := z1 hA hAm
        have k2 := z2 (by omega) hB
        suffices H : C < 0 ↔ D < 0 by
          by_cases hC : C < 0
          · rw [if_neg (by omega), if_neg (by omega), if_neg (by omega), if_neg (by omega), if_pos ⟨by omega, hB, H.1 hC⟩, if_pos ⟨hA, hAm, hC⟩]; rfl
          · rw [if_neg (by omega), if_neg (by omega), if_neg (by omega), if_neg (by omega), if_neg (fun h => hC (H.2 h.2.2)), if_neg (fun h => hC h.2.2)]; rfl
        have key : ∀ s : Int, (s = 1 ∨ s = -1) → ¬ (s * C < 0 ∧ 0 < s * D) := by
          intro s hs ⟨h1, h2⟩
          have p1 := Int.mul_pos h2 (show 0 < a.2 - q.2 by omega)
          have p2 := Int.mul_neg_of_neg_of_pos h1 (show 0 < b.2 - q.2 by omega)
          have p3 := Int.mul_nonpos_of_nonneg_of_nonpos (Int.le_of_lt h2) (show a.2 - m.2 ≤ 0 by omega)
          have p4 := Int.mul_nonneg_of_nonpos_of_nonpos (Int.le_of_lt h1) (show b.2 - m.2 ≤ 0 by omega)
          have e3 : s * A * (m.2 - q.2) = s * D * (a.2 - q.2) - s * C * (b.2 - q.2) := by rw [Int.mul_assoc, i3]; grind
          have e4 : s * B * (m.2 - q.2) = s * D * (a.2 - m.2) - s * C * (b.2 - m.2) := by rw [Int.mul_assoc, i4]; grind
          have hApos : 0 < s * A := sg_pos (k := m.2 - q.2) (by rw [Int.mul_comm]; omega) (by omega)
          by_cases hBz : s * B < 0
          · rcases hs with hs | hs <;> subst hs <;> omega
          · have hBn : 0 ≤ s * B * (m.2 - q.2) := Int.mul_nonneg (by omega) (by omega)
            have q1 : s * D * (a.2 - m.2) = 0 := by omega
            have q2 : s * C * (b.2 - m.2) = 0 := by omega
            have q3 : a.2 - m.2 = 0 := by rcases Int.mul_eq_zero.1 q1 with h | h <;> omega
            have q4 : b.2 - m.2 = 0 := by rcases Int.mul_eq_zero.1 q2 with h | h <;> omega
            have := z5 (by omega) (by omega) (by omega)
            rcases hs with hs | hs <;> subst hs <;> omega
        have := key 1 (.inl rfl)
        have := key (-1) (.inr rfl)
        omega
      · -- the side begins at the heights of the way, and ends above it
        have k1 := z1 hA hAm
        have k4 := z4 hAm (by omega)
        suffices H : 0 < B ↔ C < 0 by
          by_cases hC : C < 0
          · rw [if_neg (by omega), if_neg (by omega), if_pos ⟨hAm, by omega, H.2 hC⟩, if_neg (by omega), if_neg (by omega), if_pos ⟨hA, hAm, hC⟩]; rfl
          · rw [if_neg (by omega), if_neg (by omega), if_neg (fun h => hC (H.1 h.2.2)), if_neg (by omega), if_neg (by omega), if_neg (fun h => hC h.2.2)]; rfl
        have key : ∀ s : Int, (s = 1 ∨ s = -1) → ¬ (0 < s * B ∧ 0 < s * C) := by
          intro s hs ⟨h1, h2⟩
          have p1 := Int.mul_pos h2 (show 0 < b.2 - a.2 by omega)
          have p2 := Int.mul_neg_of_pos_of_neg h1 (show q.2 - a.2 < 0 by omega)
          have e1 : s * C * (b.2 - a.2) = s * B * (q.2 - a.2) - s * A * (m.2 - a.2) := by rw [Int.mul_assoc, i1]; grind
          have hAn : s * A < 0 := sg_neg (k := m.2 - a.2) (by rw [Int.mul_comm]; omega) (by omega)
          have p3 := Int.mul_neg_of_pos_of_neg h1 (show q.2 - b.2 < 0 by omega)
          have p4 := Int.mul_pos_of_neg_of_neg hAn (show m.2 - b.2 < 0 by omega)
          have e2 : s * D * (b.2 - a.2) = s * B * (q.2 - b.2) - s * A * (m.2 - b.2) := by rw [Int.mul_assoc, i2]; grind
          have hDn : s * D < 0 := sg_neg (k := b.2 - a.2) (by rw [Int.mul_comm]; omega) (by omega)
          rcases hs with hs | hs <;> subst hs <;> omega
        have := key 1 (.inl rfl)
        have := key (-1) (.inr rfl)
        omega
    · rw [if_neg (by omega), if_neg (by omega), if_neg (by omega), if_neg (by omega), if_neg (by omega), if_neg (by omega)]; rfl
  · by_cases hB : b.2 ≤ q.2
    · rw [if_neg (by omega), if_neg (by omega), if_neg (by omega), if_neg (by omega), if_neg (by omega), if_neg (by omega)]; rfl
    · by_cases hBm : b.2 ≤ m.2
      · have k3 := z3 (by omega) (by omega)
        have k2 := z2 (by omega) hBm
        suffices H : 0 < A ↔ D < 0 by
          by_cases hD : D < 0
          · rw [if_pos ⟨by omega, by omega, H.2 hD⟩, if_neg (by omega), if_neg (by omega), if_neg (by omega), if_pos ⟨by omega, hBm, hD⟩, if_neg (by omega)]; rfl
          · rw [if_neg (fun h => hD (H.1 h.2.2)), if_neg (by omega), if_neg (by omega), if_neg (by omega), if_neg (fun h => hD h.2.2), if_neg (by omega)]; rfl
        have key : ∀ s : Int, (s = 1 ∨ s = -1) → ¬ (0 < s * A ∧ 0 < s * D) := by
          intro s hs ⟨h1, h2⟩
          have p1 := Int.mul_pos h2 (show 0 < b.2 - a.2 by omega)
          have p2 := Int.mul_nonneg (Int.le_of_lt h1) (show 0 ≤ m.2 - b.2 by omega)
          have e2 : s * D * (b.2 - a.2) = s * B * (q.2 - b.2) - s * A * (m.2 - b.2) := by rw [Int.mul_assoc, i2]; grind
          have hBn : s * B < 0 := by
            have : 0 < (b.2 - q.2) * (-(s * B)) := by
              have e : (b.2 - q.2) * (-(s * B)) = s * B * (q.2 - b.2) := by grind
              omega
            have := sg_pos this (by omega)
            omega
          have p3 := Int.mul_nonpos_of_nonpos_of_nonneg (Int.le_of_lt hBn) (show 0 ≤ q.2 - a.2 by omega)
          have p4 := Int.mul_pos h1 (show 0 < m.2 - a.2 by omega)
          have e1 : s * C * (b.2 - a.2) = s * B * (q.2 - a.2) - s * A * (m.2 - a.2) := by rw [Int.mul_assoc, i1]; grind
          have hCn : s * C < 0 := sg_neg (k := b.2 - a.2) (by rw [Int.mul_comm]; omega) (by omega)
          rcases hs with hs | hs <;> subst hs <;> omega
        have := key 1 (.inl rfl)
        have := key (-1) (.inr rfl)
        omega
      · have k3 := z3 (by omega) (by omega)
        have k4 := z4 (by omega) (by omega)
        suffices H : 0 < A ↔ 0 < B by
          by_cases hC : 0 < A
          · rw [if_pos ⟨by omega, by omega, hC⟩, if_neg (by omega), if_pos ⟨by omega, by omega, H.1 hC⟩, if_neg (by omega), if_neg (by omega), if_neg (by omega)]; rfl
          · rw [if_neg (fun h => hC h.2.2), if_neg (by omega), if_neg (fun h => hC (H.2 h.2.2)), if_neg (by omega), if_neg (by omega), if_neg (by omega)]; rfl
        have key : ∀ s : Int, (s = 1 ∨ s = -1) → ¬ (0 < s * A ∧ s * B < 0) := by
          intro s hs ⟨h1, h2⟩
          have p1 := Int.mul_nonpos_of_nonpos_of_nonneg (Int.le_of_lt h2) (show 0 ≤ q.2 - a.2 by omega)
          have p2 := Int.mul_nonneg (Int.le_of_lt h1) (show 0 ≤ m.2 - a.2 by omega)
          have e1 : s * C * (b.2 - a.2) = s * B * (q.2 - a.2) - s * A * (m.2 - a.2) := by rw [Int.mul_assoc, i1]; grind
          have p3 := Int.mul_pos_of_neg_of_neg h2 (show q.2 - b.2 < 0 by omega)
          have p4 := Int.mul_neg_of_pos_of_neg h1 (show m.2 - b.2 < 0 by omega)
          have e2 : s * D * (b.2 - a.2) = s * B * (q.2 - b.2) - s * A * (m.2 - b.2) := by rw [Int.mul_assoc, i2]; grind
          have hDp : 0 < s * D := sg_pos (k := b.2 - a.2) (by rw [Int.mul_comm]; omega) (by omega)
          by_cases hCn : s * C < 0
          · rcases hs with hs | hs <;> subst hs <;> omega
          · have hCp : 0 ≤ s * C * (b.2 - a.2) := Int.mul_nonneg (by omega) (by omega)
            have q1 : s * B * (q.2 - a.2) = 0 := by omega
            have q2 : s * A * (m.2 - a.2) = 0 := by omega
            have q3 : q.2 - a.2 = 0 := by rcases Int.mul_eq_zero.1 q1 with h | h <;> omega
            have q4 : m.2 - a.2 = 0 := by rcases Int.mul_eq_zero.1 q2 with h | h <;> omega
            have := z6 (by omega) (by omega) (by omega)
            rcases hs with hs | hs <;> subst hs <;> omega
        have := key 1 (.inl rfl)
        have := key (-1) (.inr rfl)
        omega
theorem seg_side {q m a b : Int × Int} (hqm : q.2 ≤ m.2) (hM : ¬ MeetP q m a b) : cE q a b - cE m a b = fE q m b - fE q m a := by
  rcases Int.le_total a.2 b.2 with h | h
  · exact seg_up hqm h hM
  · have := seg_up (a := b) (b := a) hqm h (fun h => hM (by rw [MeetP_comm, MeetP_swap1, MeetP_comm]; exact h))
    rw [cE_swap, cE_swap m] at this
    omega
theorem sg_mul (x y : Int) : (0 < x ∧ 0 < y ∧ 0 < x * y) ∨ (0 < x ∧ y < 0 ∧ x * y < 0) ∨ (x < 0 ∧ 0 < y ∧ x * y < 0) ∨ (x < 0 ∧ y < 0 ∧ 0 < x * y) ∨ ((x = 0 ∨ y = 0) ∧ x * y = 0) := by
  rcases Int.lt_trichotomy x 0 with h | h | h <;> rcases Int.lt_trichotomy y 0 with k | k | k
  · exact .inr (.inr (.inr (.inl ⟨h, k, Int.mul_pos_of_neg_of_neg h k⟩)))
  · exact .inr (.inr (.inr (.inr ⟨.inr k, by rw [k, Int.mul_zero]⟩)))
  · exact .inr (.inr (.inl ⟨h, k, Int.mul_neg_of_neg_of_pos h k⟩))
  · exact .inr (.inr (.inr (.inr ⟨.inl h, by rw [h, Int.zero_mul]⟩)))
  · exact .inr (.inr (.inr (.inr ⟨.inl h, by rw [h, Int.zero_mul]⟩)))
  · exact .inr (.inr (.inr (.inr ⟨.inl h, by rw [h, Int.zero_mul]⟩)))
  · exact .inr (.inl ⟨h, k, Int.mul_neg_of_pos_of_neg h k⟩)
  · exact .inr (.inr (.inr (.inr ⟨.inr k, by rw [k, Int.mul_zero]⟩)))
  · exact .inl ⟨h, k, Int.mul_pos h k⟩
/-- Does the way from a to b lead downwards, or level to the right? -/
abbrev Low (a b : Int × Int) : Prop := b.2 < a.2 ∨ b.2 = a.2 ∧ a.1 < b.1
def lowI (a b : Int × Int) : Int := if Low a b then 1 else 0
/-- 1 if the way from a to the right, and a little up, is to the left of the way z a b. -/
def psi (z a b : Int × Int) : Int := if (¬ Low a z ∧ Low a b) ∨ ((Low a z ↔ Low a b) ∧ 0 < crossI a z b) then 1 else 0
/-- The two ways do not lead over one another. -/
def Free (z a b : Int × Int) : Prop := a ≠ b ∧ a ≠ z ∧ ¬ OnP a b z ∧ ¬ OnP a z b
theorem pt_ne {a b : Int × Int} (h : a ≠ b) : a.1 ≠ b.1 ∨ a.2 ≠ b.2 := by
  rcases Int.decEq a.1 b.1 with h1 | h1
  · exact .inl h1
  · rcases Int.decEq a.2 b.2 with h2 | h2
    · exact .inr h2
    · exact absurd (Prod.ext h1 h2) h
theorem free_signs {z a b : Int × Int} (h : Free z a b) :
    (b.2 ≠ a.2 ∨ (a.1 < b.1 ∧ a.2 < z.2 ∧ 0 < crossI a b z) ∨ (a.1 < b.1 ∧ z.2 < a.2 ∧ crossI a b z < 0) ∨ (b.1 < a.1 ∧ a.2 < z.2 ∧ crossI a b z < 0) ∨ (b.1 < a.1 ∧ z.2 < a.2 ∧ 0 < crossI a b z) ∨ (z.2 = a.2 ∧ crossI a b z = 0)) ∧
    (z.2 ≠ a.2 ∨ (a.1 < z.1 ∧ a.2 < b.2 ∧ crossI a b z < 0) ∨ (a.1 < z.1 ∧ b.2 < a.2 ∧ 0 < crossI a b z) ∨ (z.1 < a.1 ∧ a.2 < b.2 ∧ 0 < crossI a b z) ∨ (z.1 < a.1 ∧ b.2 < a.2 ∧ crossI a b z < 0) ∨ (b.2 = a.2 ∧ crossI a b z = 0)) ∧
    (crossI a b z ≠ 0 ∨ (a.2 < b.2 ∧ z.2 < a.2) ∨ (b.2 < a.2 ∧ a.2 < z.2) ∨ (b.2 = a.2 ∧ z.2 = a.2 ∧ ((a.1 < b.1 ∧ z.1 < a.1) ∨ (b.1 < a.1 ∧ a.1 < z.1)))) := by
  obtain ⟨h1, h2, h3, h4⟩ := h
  have hb := pt_ne h1
  have hz := pt_ne h2
  refine ⟨?_, ?_, ?_⟩
  · by_cases hl : b.2 = a.2
    · have e : crossI a b z = (b.1 - a.1) * (z.2 - a.2) := by unfold crossI; rw [hl]; grind
      have := sg_mul (b.1 - a.1) (z.2 - a.2)
      rw [← e] at this
      omega
    · exact .inl hl
  · by_cases hl : z.2 = a.2
    · have e : crossI a b z = (b.2 - a.2) * (a.1 - z.1) := by unfold crossI; rw [hl]; grind
      have := sg_mul (b.2 - a.2) (a.1 - z.1)
      rw [← e] at this
      omega
    · exact .inl hl
  · by_cases hc : crossI a b z = 0
    · have hc' : crossI a z b = 0 := by have : crossI a z b = - crossI a b z := by { unfold crossI; grind }
                                        omega
      have up : ∀ p q : Int × Int, crossI a p q = 0 → a.2 < p.2 → a.2 < q.2 → q.2 ≤ p.2 → OnP a p q := fun p q h k1 k2 k3 => on_level h (by omega) k3 k1
      have dn : ∀ p q : Int × Int, crossI a p q = 0 → p.2 < a.2 → q.2 < a.2 → p.2 ≤ q.2 → OnP a p q := fun p q h k1 k2 k3 =>
        OnP_swap.1 (on_level (by rw [cross_swap]; omega) k3 (by omega) k1)
      right
      rcases Int.lt_trichotomy b.2 a.2 with kb | kb | kb <;> rcases Int.lt_trichotomy z.2 a.2 with kz | kz | kz
      · exfalso
        rcases Int.le_total b.2 z.2 with k | k
        · exact h3 (dn _ _ hc kb kz k)
        · exact h4 (dn _ _ hc' kz kb k)
      · exfalso
        have e : crossI a b z = (b.2 - a.2) * (a.1 - z.1) := by unfold crossI; rw [kz]; grind
        have := sg_mul (b.2 - a.2) (a.1 - z.1)
        rw [← e] at this
        omega
      · omega
      · exfalso
        have e : crossI a b z = (b.1 - a.1) * (z.2 - a.2) := by unfold crossI; rw [kb]; grind
        have := sg_mul (b.1 - a.1) (z.2 - a.2)
        rw [← e] at this
        omega
      · refine .inr (.inr ⟨kb, kz, ?_⟩)
        rcases Int.lt_trichotomy b.1 a.1 with jb | jb | jb <;> rcases Int.lt_trichotomy z.1 a.1 with jz | jz | jz
        · exfalso
          rcases Int.le_total b.1 z.1 with k | k
          · exact h3 ⟨hc, by omega, by omega⟩
          · exact h4 ⟨hc', by omega, by omega⟩
        · omega
        · omega
        · omega
        · omega
        · omega
        · omega
        · omega
        · exfalso
          rcases Int.le_total b.1 z.1 with k | k
          · exact h4 ⟨hc', by omega, by omega⟩
          · exact h3 ⟨hc, by omega, by omega⟩
      · exfalso
        have e : crossI a b z = (b.1 - a.1) * (z.2 - a.2) := by unfold crossI; rw [kb]; grind
        have := sg_mul (b.1 - a.1) (z.2 - a.2)
        rw [← e] at this
        omega
      · omega
      · exfalso
        have e : crossI a b z = (b.2 - a.2) * (a.1 - z.1) := by unfold crossI; rw [kz]; grind
        have := sg_mul (b.2 - a.2) (a.1 - z.1)
        rw [← e] at this
        omega
      · exfalso
        rcases Int.le_total b.2 z.2 with k | k
        · exact h4 (up _ _ hc' kz kb k)
        · exact h3 (up _ _ hc kb kz k)
    · exact .inl hc
/-- What is told at the beginning of a side. -/
theorem local_a {z a b : Int × Int} (h : Free z a b) : (if a.2 ≤ b.2 then fE a b z - cE b z a else - fE b a z - cE b z a) = psi z a b - lowI a b := by
  obtain ⟨s1, s2, s3⟩ := free_signs h
  have hb := pt_ne h.1
  have hz := pt_ne h.2.1
  have e1 : crossI z a b = crossI a b z := by unfold crossI; grind
  have e2 : crossI b a z = - crossI a b z := cross_swap a b z
  have e3 : crossI a z b = - crossI a b z := by unfold crossI; grind
  unfold fE cE psi lowI Low
  rw [e1, e2, e3]
  generalize crossI a b z = C at *
  split
  · split <;> split <;> split <;> split <;> split <;> omega
  · split <;> split <;> split <;> split <;> split <;> omega
/-- What is told at its end. -/
theorem local_b {a b d : Int × Int} (h : Free a b d) : (if a.2 ≤ b.2 then fE a b d - cE a b d else - fE b a d - cE a b d) = psi a b d - lowI a b := by
  obtain ⟨s1, s2, s3⟩ := free_signs h
  have hb := pt_ne h.1
  have hz := pt_ne h.2.1
  have e4 : crossI a b d = crossI b d a := by unfold crossI; grind
  have e3 : crossI b a d = - crossI b d a := by unfold crossI; grind
  unfold fE cE psi lowI Low
  rw [e4, e3]
  generalize crossI b d a = C at *
  split
  · split <;> split <;> split <;> split <;> split <;> omega
  · split <;> split <;> split <;> split <;> split <;> omega
/-- A polygon whose sides have no more in common than those of a pen, of any size. -/
structure Simp (n : Nat) (p : Nat → Int × Int) : Prop where
  h3 : 3 ≤ n
  ne : ∀ i, i < n → p i ≠ p (suc n i)
  adj : ∀ i, i < n → ¬ OnP (p i) (p (suc n i)) (p (suc n (suc n i))) ∧ ¬ OnP (p (suc n i)) (p (suc n (suc n i))) (p i)
  far : ∀ i k, i < n → k < n → k ≠ i → k ≠ suc n i → i ≠ suc n k → ¬ MeetP (p i) (p (suc n i)) (p k) (p (suc n k))
theorem PenS.simp {n : Nat} {p : Nat → Int × Int} (h : PenS n p) : Simp n p := ⟨h.1.1, h.2.2.1, h.2.2.2.1, h.2.2.2.2⟩
theorem Simp.rot {n : Nat} {p : Nat → Int × Int} (h : Simp n p) : Simp n (rotP n p) :=
  ⟨h.h3, fun _ hi => h.ne _ (suc_lt hi), fun _ hi => h.adj _ (suc_lt hi), fun _ _ hi hk a b c =>
    h.far _ _ (suc_lt hi) (suc_lt hk) (fun e => a (suc_inj hk hi e)) (fun e => b (suc_inj hk (suc_lt hi) e)) (fun e => c (suc_inj hi (suc_lt hk) e))⟩
theorem Simp.congr {n : Nat} {p q : Nat → Int × Int} (h : Simp n p) (e : ∀ i, i < n → p i = q i) : Simp n q :=
  ⟨h.h3, fun i hi => by rw [← e i hi, ← e _ (suc_lt hi)]; exact h.ne i hi, fun i hi => by rw [← e i hi, ← e _ (suc_lt hi), ← e _ (suc_lt (suc_lt hi))]; exact h.adj i hi,
    fun i k hi hk a b c => by rw [← e i hi, ← e _ (suc_lt hi), ← e k hk, ← e _ (suc_lt hk)]; exact h.far i k hi hk a b c⟩
/-- Begun with post k. -/
def rotK (n : Nat) (p : Nat → Int × Int) (k i : Nat) : Int × Int := p ((i + k) % n)
theorem rotK_succ (n : Nat) (p : Nat → Int × Int) (k : Nat) : rotK n p (k + 1) = rotP n (rotK n p k) := by
  funext i
  show p ((i + (k + 1)) % n) = p (((i + 1) % n + k) % n)
  rw [Nat.mod_add_mod, show i + (k + 1) = i + 1 + k by omega]
theorem Simp.begun {n : Nat} {p : Nat → Int × Int} (h : Simp n p) (k : Nat) : Simp n (rotK n p k) := by
  induction k with
  | zero => exact h.congr (fun i hi => by simp [rotK, Nat.mod_eq_of_lt hi])
  | succ k ih => rw [rotK_succ]; exact ih.rot
/-- The crossings of all sides. -/
def cP (n : Nat) (p : Nat → Int × Int) (q : Int × Int) : Int := sumI (fun i => cE q (p i) (p (suc n i))) n
theorem cP_rot (n : Nat) (p : Nat → Int × Int) (q : Int × Int) : cP n (rotP n p) q = cP n p q := sumI_round (fun i => cE q (p i) (p (suc n i))) n
theorem cP_congr {n : Nat} {p p' : Nat → Int × Int} (h : ∀ i, i < n → p i = p' i) (q : Int × Int) : cP n p q = cP n p' q :=
  sumI_congr (fun i hi => by rw [h i hi, h _ (suc_lt hi)])
theorem cP_rotK (n : Nat) (p : Nat → Int × Int) (k : Nat) (q : Int × Int) : cP n (rotK n p k) q = cP n p q := by
  induction k with
  | zero => exact cP_congr (fun i hi => by simp [rotK, Nat.mod_eq_of_lt hi]) q
  | succ k ih => rw [rotK_succ, cP_rot, ih]
theorem sumI_sub (f g : Nat → Int) (n : Nat) : sumI (fun i => f i - g i) n = sumI f n - sumI g n := by
  induction n with
  | zero => rfl
  | succ n ih => simp only [sumI, ih]; omega
theorem sumI_tele (F : Nat → Int) (n : Nat) : sumI (fun i => F (i + 1) - F i) n = F n - F 0 := by
  induction n with
  | zero => simp [sumI]
  | succ n ih => rw [sumI, ih]; omega
theorem sumI_three (f : Nat → Int) (n : Nat) : sumI f (n + 3) = f 0 + f 1 + f 2 + sumI (fun i => f (i + 3)) n := by
  rw [sumI_first, sumI_first, sumI_first]
  change f 0 + (f 1 + (f 2 + sumI (fun i => f (i + 3)) n)) = _
  omega
theorem cross_aa (a b : Int × Int) : crossI a a b = 0 := by unfold crossI; grind
theorem cross_ab (a b : Int × Int) : crossI a b b = 0 := by unfold crossI; grind
theorem cross_ba (a b : Int × Int) : crossI a b a = 0 := by unfold crossI; grind
theorem cE_a (a b : Int × Int) : cE a a b = 0 := by unfold cE; rw [cross_ba]; simp
theorem cE_b (a b : Int × Int) : cE b a b = 0 := by unfold cE; rw [cross_ab]; simp
/-- The sides behind the third one, beside a segment that none of them meets. -/
theorem far_tele {n : Nat} {p : Nat → Int × Int} (h3 : 3 ≤ n) {q m : Int × Int} (hqm : q.2 ≤ m.2) (h : ∀ i, 3 ≤ i → i < n → ¬ MeetP q m (p i) (p (suc n i))) :
    sumI (fun i => cE q (p (i + 3)) (p (suc n (i + 3)))) (n - 3) - sumI (fun i => cE m (p (i + 3)) (p (suc n (i + 3)))) (n - 3) = fE q m (p 0) - fE q m (p (3 % n)) := by
  rw [← sumI_sub]
  have e : sumI (fun i => cE q (p (i + 3)) (p (suc n (i + 3))) - cE m (p (i + 3)) (p (suc n (i + 3)))) (n - 3) = sumI (fun i => (fun j => fE q m (p ((j + 3) % n))) (i + 1) - (fun j => fE q m (p ((j + 3) % n))) i) (n - 3) := by
    refine sumI_congr (fun i hi => ?_)
    rw [seg_side hqm (h (i + 3) (by omega) (by omega))]
    dsimp only
    rw [Nat.mod_eq_of_lt (show i + 3 < n by omega)]
    unfold suc
    rw [show i + 1 + 3 = i + 3 + 1 by omega]
  rw [e, sumI_tele (fun j => fE q m (p ((j + 3) % n)))]
  rw [show n - 3 + 3 = n by omega, Nat.mod_self, Nat.zero_add]
theorem cP_three {n : Nat} (p : Nat → Int × Int) (h3 : 3 ≤ n) (q : Int × Int) : cP n p q = cE q (p 0) (p 1) + cE q (p 1) (p 2) + cE q (p 2) (p (3 % n)) + sumI (fun i => cE q (p (i + 3)) (p (suc n (i + 3)))) (n - 3) := by
  obtain ⟨m, rfl⟩ : ∃ m, n = m + 3 := ⟨n - 3, by omega⟩
  unfold cP
  rw [sumI_three, show m + 3 - 3 = m by omega]
  have e0 : suc (m + 3) 0 = 1 := Nat.mod_eq_of_lt (by omega)
  have e1 : suc (m + 3) 1 = 2 := Nat.mod_eq_of_lt (by omega)
  have e2 : suc (m + 3) 2 = 3 % (m + 3) := rfl
  rw [e0, e1, e2]
theorem Simp.free {n : Nat} {p : Nat → Int × Int} (h : Simp n p) {i : Nat} (hi : i < n) : Free (p i) (p (suc n i)) (p (suc n (suc n i))) :=
  ⟨h.ne _ (suc_lt hi), fun e => h.ne i hi e.symm, (h.adj i hi).2, fun k => (h.adj i hi).1 (OnP_swap.1 k)⟩
theorem suc01 {n : Nat} (h3 : 3 ≤ n) : suc n 0 = 1 ∧ suc n 1 = 2 ∧ suc n 2 = 3 % n := ⟨Nat.mod_eq_of_lt (by omega), Nat.mod_eq_of_lt (by omega), rfl⟩
theorem Simp.step {n : Nat} {p : Nat → Int × Int} (h : Simp n p) : cP n p (p 1) - psi (p 0) (p 1) (p 2) = cP n p (p 2) - psi (p 1) (p 2) (p (3 % n)) := by
  obtain ⟨s0, s1, s2⟩ := suc01 h.h3
  have h3 := h.h3
  have F1 : Free (p 0) (p 1) (p 2) := by have := h.free (i := 0) (by omega); rwa [s0, s1] at this
  have F2 : Free (p 1) (p 2) (p (3 % n)) := by have := h.free (i := 1) (by omega); rwa [s1, s2] at this
  have hm : ∀ i, 3 ≤ i → i < n → ¬ MeetP (p 1) (p 2) (p i) (p (suc n i)) := fun i h1 h2 => by
    have := h.far 1 i (by omega) h2 (by omega) (by omega) (by rw [suc_eq h2]; split <;> omega)
    rwa [s1] at this
  have L1 := local_a F1
  have L2 := local_b F2
  rw [cP_three p h3, cP_three p h3, cE_a, cE_b, cE_b, cE_a]
  by_cases hl : (p 1).2 ≤ (p 2).2
  · rw [if_pos hl] at L1 L2
    have := far_tele h3 hl hm
    omega
  · rw [if_neg hl] at L1 L2
    have := far_tele (q := p 2) (m := p 1) (p := p) h3 (by omega) (fun i h1 h2 => by rw [MeetP_swap1]; exact hm i h1 h2)
    omega
/-- What the crossings at a post tell of the right side. -/
def vP (n : Nat) (p : Nat → Int × Int) (i : Nat) : Int := cP n p (p ((i + 1) % n)) - psi (p (i % n)) (p ((i + 1) % n)) (p ((i + 2) % n))
theorem vP_rotK (n : Nat) (p : Nat → Int × Int) (k i : Nat) : vP n (rotK n p k) i = vP n p (i + k) := by
  have e : ∀ j, rotK n p k (j % n) = p ((j + k) % n) := fun j => by unfold rotK; rw [Nat.mod_add_mod]
  unfold vP
  rw [cP_rotK, e, e, e, show i + 1 + k = i + k + 1 by omega, show i + 2 + k = i + k + 2 by omega]
theorem Simp.next {n : Nat} {p : Nat → Int × Int} (h : Simp n p) : vP n p 0 = vP n p 1 := by
  have h3 := h.h3
  have := h.step
  have m0 : 0 % n = 0 := Nat.mod_eq_of_lt (by omega)
  have m1 : 1 % n = 1 := Nat.mod_eq_of_lt (by omega)
  have m2 : 2 % n = 2 := Nat.mod_eq_of_lt (by omega)
  unfold vP
  simp only [Nat.zero_add, Nat.reduceAdd]
  rw [m0, m1, m2]
  exact this
/-- It is the same at all posts. -/
def kap (n : Nat) (p : Nat → Int × Int) : Int := vP n p 0
theorem Simp.all {n : Nat} {p : Nat → Int × Int} (h : Simp n p) (i : Nat) : vP n p i = kap n p := by
  induction i with
  | zero => rfl
  | succ i ih =>
    have := (h.begun i).next
    rw [vP_rotK, vP_rotK] at this
    rw [← ih, show i + 1 = 1 + i by omega, ← this, Nat.zero_add]
theorem Simp.at_post {n : Nat} {p : Nat → Int × Int} (h : Simp n p) {i : Nat} (hi : i < n) : cP n p (p (suc n i)) = kap n p + psi (p i) (p (suc n i)) (p (suc n (suc n i))) := by
  have := h.all i
  unfold vP at this
  rw [Nat.mod_eq_of_lt hi, ← suc2] at this
  unfold suc at this ⊢
  omega
/-- r is the l-th of k parts of the way from a to b. -/
def Bet (a b r : Int × Int) (k l : Int) : Prop := 0 < k ∧ 0 ≤ l ∧ l ≤ k ∧ k * (r.1 - a.1) = l * (b.1 - a.1) ∧ k * (r.2 - a.2) = l * (b.2 - a.2)
theorem on_bet {a b r : Int × Int} (h : OnP a b r) : ∃ k l, Bet a b r k l := by
  obtain ⟨h1, h2, h3⟩ := h
  unfold crossI at h1
  by_cases hx : a.1 = b.1
  · by_cases hy : a.2 = b.2
    · exact ⟨1, 0, by omega, by omega, by omega, by omega, by omega⟩
    · rcases Int.lt_or_gt_of_ne hy with hy | hy
      · exact ⟨b.2 - a.2, r.2 - a.2, by omega, by omega, by omega, by rw [show r.1 - a.1 = 0 by omega, show b.1 - a.1 = 0 by omega]; simp, Int.mul_comm _ _⟩
      · refine ⟨a.2 - b.2, a.2 - r.2, by omega, by omega, by omega, by rw [show r.1 - a.1 = 0 by omega, show b.1 - a.1 = 0 by omega]; simp, by grind⟩
  · rcases Int.lt_or_gt_of_ne hx with hx | hx
    · exact ⟨b.1 - a.1, r.1 - a.1, by omega, by omega, by omega, Int.mul_comm _ _, by grind⟩
    · exact ⟨a.1 - b.1, a.1 - r.1, by omega, by omega, by omega, by grind, by grind⟩
theorem bet_cross {a b r : Int × Int} {k l : Int} (h : Bet a b r k l) (x y : Int × Int) : k * crossI x y r = (k - l) * crossI x y a + l * crossI x y b := by
  obtain ⟨_, _, _, h1, h2⟩ := h
  unfold crossI
  grind
theorem bet_zero {a b r : Int × Int} {k l : Int} (h : Bet a b r k l) : crossI a b r = 0 := by
  have := bet_cross h a b
  rw [cross_ba, cross_ab] at this
  obtain ⟨hk, _⟩ := h
  rcases Int.mul_eq_zero.1 (show k * crossI a b r = 0 by omega) with e | e <;> omega
theorem bet_btw {x X k l : Int} (hk : 0 < k) (h0 : 0 ≤ l) (h1 : l ≤ k) (e : k * x = l * X) : 0 ≤ x ∧ x ≤ X ∨ X ≤ x ∧ x ≤ 0 := btw_mul (by omega) (.inl ⟨h0, h1⟩) e
theorem bet_on {a b r : Int × Int} {k l : Int} (h : Bet a b r k l) : OnP a b r := by
  refine ⟨bet_zero h, ?_, ?_⟩
  · have := bet_btw h.1 h.2.1 h.2.2.1 h.2.2.2.1; omega
  · have := bet_btw h.1 h.2.1 h.2.2.1 h.2.2.2.2; omega
theorem bet_first {a b r : Int × Int} {k : Int} (h : Bet a b r k 0) : r = a := by
  obtain ⟨h0, _, _, h1, h2⟩ := h
  rw [Int.zero_mul] at h1 h2
  have e1 : r.1 - a.1 = 0 := by rcases Int.mul_eq_zero.1 h1 with e | e <;> omega
  have e2 : r.2 - a.2 = 0 := by rcases Int.mul_eq_zero.1 h2 with e | e <;> omega
  exact Prod.ext (by omega) (by omega)
theorem bet_last {a b r : Int × Int} {k : Int} (h : Bet a b r k k) : r = b := by
  obtain ⟨h0, _, _, h1, h2⟩ := h
  have e1 := Int.eq_of_mul_eq_mul_left (by omega) h1
  have e2 := Int.eq_of_mul_eq_mul_left (by omega) h2
  exact Prod.ext (by omega) (by omega)
theorem bet_swap {a b r : Int × Int} {k l : Int} (h : Bet a b r k l) : Bet b a r k (k - l) := by
  obtain ⟨h0, h1, h2, h3, h4⟩ := h
  exact ⟨h0, by omega, by omega, by grind, by grind⟩
/-- On one line: between in one of the numbers is between. -/
theorem on_x {a b c : Int × Int} (h : crossI a b c = 0) (hx : a.1 ≠ b.1) (h1 : a.1 ≤ c.1 ∧ c.1 ≤ b.1 ∨ b.1 ≤ c.1 ∧ c.1 ≤ a.1) : OnP a b c := by
  refine ⟨h, h1, ?_⟩
  have e : (b.1 - a.1) * (c.2 - a.2) = (c.1 - a.1) * (b.2 - a.2) := by unfold crossI at h; grind
  have := btw_mul (y := c.1 - a.1) (Y := b.1 - a.1) (z := c.2 - a.2) (Z := b.2 - a.2) (by omega) (by omega) e
  omega
theorem on_y {a b c : Int × Int} (h : crossI a b c = 0) (hx : a.2 ≠ b.2) (h1 : a.2 ≤ c.2 ∧ c.2 ≤ b.2 ∨ b.2 ≤ c.2 ∧ c.2 ≤ a.2) : OnP a b c := by
  refine ⟨h, ?_, h1⟩
  have e : (b.2 - a.2) * (c.1 - a.1) = (c.2 - a.2) * (b.1 - a.1) := by unfold crossI at h; grind
  have := btw_mul (y := c.2 - a.2) (Y := b.2 - a.2) (z := c.1 - a.1) (Z := b.1 - a.1) (by omega) (by omega) e
  omega
theorem line_zero {a b c d : Int × Int} (hcd : c ≠ d) (h1 : crossI c d a = 0) (h2 : crossI c d b = 0) : crossI a b c = 0 ∧ crossI a b d = 0 := by
  have e1 : crossI a b c * (d.1 - c.1) = (crossI c d b - crossI c d a) * (a.1 - c.1) - crossI c d a * (b.1 - a.1) := by unfold crossI; grind
  have e2 : crossI a b c * (d.2 - c.2) = (crossI c d b - crossI c d a) * (a.2 - c.2) - crossI c d a * (b.2 - a.2) := by unfold crossI; grind
  have e3 : crossI a b d = crossI a b c + (crossI c d a - crossI c d b) := by unfold crossI; grind
  rw [h1, h2] at e1 e2 e3
  simp only [Int.zero_mul, Int.sub_zero] at e1 e2
  have h := pt_ne hcd
  have : crossI a b c = 0 := by
    rcases h with h | h
    · rcases Int.mul_eq_zero.1 e1 with e | e <;> omega
    · rcases Int.mul_eq_zero.1 e2 with e | e <;> omega
  exact ⟨this, by omega⟩
/-- Two sides with a point of the grid in common meet. -/
theorem common {a b c d r : Int × Int} (h1 : OnP a b r) (h2 : OnP c d r) : MeetP a b c d := by
  obtain ⟨k, l, B1⟩ := on_bet h1
  obtain ⟨k', l', B2⟩ := on_bet h2
  by_cases l0 : l = 0
  · subst l0; rw [bet_first B1] at h2; exact .inr (.inr (.inl h2))
  by_cases lk : l = k
  · subst lk; rw [bet_last B1] at h2; exact .inr (.inr (.inr (.inl h2)))
  by_cases l0' : l' = 0
  · subst l0'; rw [bet_first B2] at h1; exact .inl h1
  by_cases lk' : l' = k'
  · subst lk'; rw [bet_last B2] at h1; exact .inr (.inl h1)
  have e1 := bet_cross B1 c d
  have e2 := bet_cross B2 a b
  rw [h2.1, Int.mul_zero] at e1
  rw [h1.1, Int.mul_zero] at e2
  have p1 := B1.1
  have p2 := B1.2.1
  have p3 := B1.2.2.1
  have p4 := B2.1
  have p5 := B2.2.1
  have p6 := B2.2.2.1
  have opp : ∀ x y s t : Int, 0 < s → 0 < t → 0 = s * x + t * y → Opp x y ∨ (x = 0 ∧ y = 0) := by
    intro x y s t hs ht e
    have m1 := sg_mul s x
    have m2 := sg_mul t y
    unfold Opp
    omega
  rcases opp _ _ _ _ (show 0 < k' - l' by omega) (show 0 < l' by omega) e2 with o2 | ⟨z1, z2⟩
  · rcases opp _ _ _ _ (show 0 < k - l by omega) (show 0 < l by omega) e1 with o1 | ⟨z3, z4⟩
    · exact .inr (.inr (.inr (.inr ⟨o2, o1⟩)))
    · exfalso
      have hcd : c ≠ d := by intro e; subst e; unfold Opp at o2; omega
      have := line_zero hcd z3 z4
      unfold Opp at o2
      omega
  · by_cases hab : a = b
    · subst hab
      have : r = a := by
        obtain ⟨_, q2, q3⟩ := h1
        exact Prod.ext (by omega) (by omega)
      rw [this] at h2
      exact .inr (.inr (.inl h2))
    · obtain ⟨z3, z4⟩ := line_zero hab z1 z2
      obtain ⟨_, q2, q3⟩ := h1
      obtain ⟨_, q4, q5⟩ := h2
      by_cases hx : a.1 = b.1
      · have hy : a.2 ≠ b.2 := by have := pt_ne hab; omega
        by_cases c1 : a.2 ≤ c.2 ∧ c.2 ≤ b.2 ∨ b.2 ≤ c.2 ∧ c.2 ≤ a.2
        · exact .inl (on_y z1 hy c1)
        by_cases c2 : a.2 ≤ d.2 ∧ d.2 ≤ b.2 ∨ b.2 ≤ d.2 ∧ d.2 ≤ a.2
        · exact .inr (.inl (on_y z2 hy c2))
        · exact .inr (.inr (.inl (on_y z3 (by omega) (by omega))))
      · by_cases c1 : a.1 ≤ c.1 ∧ c.1 ≤ b.1 ∨ b.1 ≤ c.1 ∧ c.1 ≤ a.1
        · exact .inl (on_x z1 hx c1)
        by_cases c2 : a.1 ≤ d.1 ∧ d.1 ≤ b.1 ∨ b.1 ≤ d.1 ∧ d.1 ≤ a.1
        · exact .inr (.inl (on_x z2 hx c2))
        · exact .inr (.inr (.inl (on_x z3 (by omega) (by omega))))
theorem bet_trans {a b r s : Int × Int} {k l k' l' : Int} (h : Bet a b r k l) (h' : Bet a r s k' l') : Bet a b s (k * k') (l * l') := by
  obtain ⟨h0, h1, h2, h3, h4⟩ := h
  obtain ⟨g0, g1, g2, g3, g4⟩ := h'
  refine ⟨Int.mul_pos h0 g0, Int.mul_nonneg h1 g1, ?_, ?_, ?_⟩
  · exact Int.le_trans (Int.mul_le_mul_of_nonneg_right h2 g1) (Int.mul_le_mul_of_nonneg_left g2 (Int.le_of_lt h0))
  · rw [Int.mul_assoc, g3]; grind
  · rw [Int.mul_assoc, g4]; grind
theorem on_trans {a b r s : Int × Int} (h : OnP a b r) (h' : OnP a r s) : OnP a b s := by
  obtain ⟨k, l, B⟩ := on_bet h
  obtain ⟨k', l', B'⟩ := on_bet h'
  exact bet_on (bet_trans B B')
/-- A part of a side meets no more than the side. -/
theorem meet_part {a b r c d : Int × Int} (h : OnP a b r) (hM : MeetP a r c d) : MeetP a b c d := by
  obtain ⟨k, l, B⟩ := on_bet h
  rcases hM with h1 | h1 | h1 | h1 | ⟨h1, h2⟩
  · exact .inl (on_trans h h1)
  · exact .inr (.inl (on_trans h h1))
  · exact .inr (.inr (.inl h1))
  · exact common h h1
  · have f1 : ∀ x, k * crossI a r x = l * crossI a b x := fun x => by
      obtain ⟨_, _, _, h3, h4⟩ := B
      unfold crossI; grind
    have f2 := bet_cross B c d
    have e1 := f1 c
    have e2 := f1 d
    have p1 := B.1
    have p2 := B.2.1
    have p3 := B.2.2.1
    have m1 := sg_mul k (crossI a r c)
    have m2 := sg_mul k (crossI a r d)
    have m3 := sg_mul l (crossI a b c)
    have m4 := sg_mul l (crossI a b d)
    have m5 := sg_mul k (crossI c d r)
    have m6 := sg_mul (k - l) (crossI c d a)
    have m7 := sg_mul l (crossI c d b)
    refine .inr (.inr (.inr (.inr ⟨?_, ?_⟩)))
    · unfold Opp at *; omega
    · unfold Opp at *; omega
theorem bet_level {a b r : Int × Int} {k l : Int} (h : Bet a b r k l) (hl : l ≠ 0) : (a.1 < b.1 ↔ a.1 < r.1) ∧ (b.1 < a.1 ↔ r.1 < a.1) ∧ (a.2 < b.2 ↔ a.2 < r.2) ∧ (b.2 < a.2 ↔ r.2 < a.2) := by
  obtain ⟨h0, h1, h2, h3, h4⟩ := h
  have m1 := sg_mul k (r.1 - a.1)
  have m2 := sg_mul l (b.1 - a.1)
  have m3 := sg_mul k (r.2 - a.2)
  have m4 := sg_mul l (b.2 - a.2)
  omega
theorem ite_iff {P Q : Prop} [Decidable P] [Decidable Q] (h : P ↔ Q) (a b : Int) : (if P then a else b) = if Q then a else b := by
  by_cases hP : P
  · rw [if_pos hP, if_pos (h.1 hP)]
  · rw [if_neg hP, if_neg (fun k => hP (h.2 k))]
/-- A point on a side is seen from its beginning as its end is. -/
theorem free_part {z a b r : Int × Int} (h : Free z a b) (hr : OnP a b r) (hne : r ≠ a) : Free z a r ∧ psi z a r = psi z a b ∧ lowI a r = lowI a b := by
  obtain ⟨k, l, B⟩ := on_bet hr
  have hl : l ≠ 0 := fun e => by subst e; exact hne (bet_first B)
  have L := bet_level B hl
  have f := bet_cross B a z
  rw [cross_ba] at f
  have p1 := B.1
  have p2 := B.2.1
  have m1 := sg_mul k (crossI a z r)
  have m2 := sg_mul l (crossI a z b)
  have hlow : Low a r ↔ Low a b := by unfold Low; omega
  refine ⟨⟨fun e => hne e.symm, h.2.1, fun k => h.2.2.1 (on_trans hr k), fun hz => ?_⟩, ?_, ?_⟩
  · obtain ⟨_, _, s3⟩ := free_signs h
    obtain ⟨k', l', B'⟩ := on_bet hz
    have hl' : l' ≠ 0 := fun e => by subst e; exact hne (bet_first B')
    have L' := bet_level B' hl'
    have e : crossI a z r = 0 := hz.1
    have e3 : crossI a b z = - crossI a z b := by unfold crossI; grind
    omega
  · unfold psi
    have hc : 0 < crossI a z r ↔ 0 < crossI a z b := by omega
    have key : ((¬ Low a z ∧ Low a r) ∨ ((Low a z ↔ Low a r) ∧ 0 < crossI a z r)) ↔ ((¬ Low a z ∧ Low a b) ∨ ((Low a z ↔ Low a b) ∧ 0 < crossI a z b)) := by rw [hlow, hc]
    exact ite_iff key _ _
  · exact ite_iff hlow _ _
theorem kap_rotK {n : Nat} {p : Nat → Int × Int} (h : Simp n p) (k : Nat) : kap n (rotK n p k) = kap n p := by
  unfold kap
  rw [vP_rotK, h.all, ← h.all 0]
theorem cE_on {a b r : Int × Int} (h : crossI a b r = 0) : cE r a b = 0 := by unfold cE; rw [h]; simp
theorem fE_on {a b r : Int × Int} (h : crossI a b r = 0) : fE a b r = 0 := by unfold fE; rw [h]; simp
theorem Simp.on_one {n : Nat} {p : Nat → Int × Int} (h : Simp n p) {r : Int × Int} (hr : OnP (p 1) (p 2) r) (h1 : r ≠ p 1) (h2 : r ≠ p 2) : cP n p r = kap n p + lowI (p 1) (p 2) := by
  obtain ⟨s0, s1, s2⟩ := suc01 h.h3
  have h3 := h.h3
  have F1 : Free (p 0) (p 1) (p 2) := by have := h.free (i := 0) (by omega); rwa [s0, s1] at this
  have F2 : Free (p 1) (p 2) (p (3 % n)) := by have := h.free (i := 1) (by omega); rwa [s1, s2] at this
  obtain ⟨F, e1, e2⟩ := free_part F1 hr h1
  have hm : ∀ i, 3 ≤ i → i < n → ¬ MeetP (p 1) r (p i) (p (suc n i)) := fun i k1 k2 hM => by
    have := h.far 1 i (by omega) k2 (by omega) (by omega) (by rw [suc_eq k2]; split <;> omega)
    rw [s1] at this
    exact this (meet_part hr hM)
  have hm2 : ¬ MeetP (p 1) r (p 2) (p (3 % n)) := by
    rintro (k | k | k | k | ⟨k, _⟩)
    · obtain ⟨_, q1, q2⟩ := k
      obtain ⟨_, q3, q4⟩ := hr
      exact h2 (Prod.ext (by omega) (by omega))
    · exact F2.2.2.1 (by
        have := on_trans hr k
        have a2 := h.adj 1 (by omega)
        rw [s1, s2] at a2
        exact absurd this a2.1)
    · have a2 := h.adj 1 (by omega)
      rw [s1, s2] at a2
      exact a2.2 k
    · -- r is on both sides at p 2
      have F2' : Free (p 1) (p 2) (p (3 % n)) := F2
      obtain ⟨F3, _, _⟩ := free_part (z := p 1) (a := p 2) (b := p (3 % n)) F2' k h2
      exact F3.2.2.2 (OnP_swap.1 hr)
    · have e : crossI (p 1) r (p 2) = - crossI (p 1) (p 2) r := by unfold crossI; grind
      rw [e, hr.1] at k
      unfold Opp at k
      omega
  have L1 := local_a F
  have hP := h.at_post (i := 0) (by omega)
  rw [s0, s1] at hP
  have hc0 : crossI (p 1) r (p 2) = 0 := by have := hr.1; have e : crossI (p 1) r (p 2) = - crossI (p 1) (p 2) r := by { unfold crossI; grind }
                                            omega
  have hc1 : crossI r (p 1) (p 2) = 0 := by rw [cross_swap]; omega
  have t1 := cP_three p h3 (p 1)
  have t2 := cP_three p h3 r
  rw [cE_b, cE_a] at t1
  rw [cE_on hr.1] at t2
  by_cases hl : (p 1).2 ≤ r.2
  · rw [if_pos hl] at L1
    have T := far_tele h3 hl hm
    have S := seg_side hl hm2
    rw [fE_on hc0] at S
    omega
  · rw [if_neg hl] at L1
    have T := far_tele (q := r) (m := p 1) (p := p) h3 (by omega) (fun i k1 k2 => by rw [MeetP_swap1]; exact hm i k1 k2)
    have S := seg_side (q := r) (m := p 1) (a := p 2) (b := p (3 % n)) (by omega) (by rw [MeetP_swap1]; exact hm2)
    rw [fE_on hc1] at S
    omega
/-- What the crossings at a point of a side tell. -/
theorem Simp.at_side {n : Nat} {p : Nat → Int × Int} (h : Simp n p) {i : Nat} (hi : i < n) {r : Int × Int} (hr : OnP (p i) (p (suc n i)) r) (h1 : r ≠ p i) (h2 : r ≠ p (suc n i)) : cP n p r = kap n p + lowI (p i) (p (suc n i)) := by
  have h3 := h.h3
  have e1 : rotK n p (i + n - 1) 1 = p i := by unfold rotK; rw [show 1 + (i + n - 1) = i + n by omega, Nat.add_mod_right, Nat.mod_eq_of_lt hi]
  have e2 : rotK n p (i + n - 1) 2 = p (suc n i) := by unfold rotK suc; rw [show 2 + (i + n - 1) = i + 1 + n by omega, Nat.add_mod_right]
  have := (h.begun (i + n - 1)).on_one (r := r) (by rw [e1, e2]; exact hr) (by rw [e1]; exact h1) (by rw [e2]; exact h2)
  rw [cP_rotK, kap_rotK h, e1, e2] at this
  exact this
/-- No post lies on a side that does not begin or end there. -/
theorem Simp.post_off {n : Nat} {p : Nat → Int × Int} (h : Simp n p) {i k : Nat} (hi : i < n) (hk : k < n) (h1 : k ≠ i) (h2 : k ≠ suc n i) : ¬ OnP (p i) (p (suc n i)) (p k) := by
  intro ho
  by_cases h4 : i = suc n k
  · have := h.adj k hk
    rw [← h4] at this
    exact this.2 ho
  · exact h.far i k hi hk h1 h2 h4 (.inl ho)
theorem Simp.inj {n : Nat} {p : Nat → Int × Int} (h : Simp n p) {i k : Nat} (hi : i < n) (hk : k < n) (e : p i = p k) : i = k := by
  by_cases h1 : k = i
  · exact h1.symm
  · by_cases h2 : k = suc n i
    · subst h2; exact absurd e (h.ne i hi)
    · exact absurd (by rw [← e]; exact ⟨cross_ba _ _, by omega, by omega⟩) (h.post_off hi hk h1 h2)
/-- A point of two sides is a post of both. -/
theorem Simp.two_sides {n : Nat} {p : Nat → Int × Int} (h : Simp n p) {i k : Nat} (hi : i < n) (hk : k < n) (hne : k ≠ i) {r : Int × Int} (h1 : OnP (p i) (p (suc n i)) r) (h2 : OnP (p k) (p (suc n k)) r) :
    (k = suc n i ∧ r = p k) ∨ (i = suc n k ∧ r = p i) := by
  have key : ∀ i k, i < n → k < n → k = suc n i → ∀ r, OnP (p i) (p (suc n i)) r → OnP (p k) (p (suc n k)) r → r = p k := by
    intro i k hi hk e r h1 h2
    subst e
    rcases Classical.em (r = p (suc n i)) with e | e
    · exact e
    · exfalso
      obtain ⟨F3, _, _⟩ := free_part (h.free hi) h2 e
      exact F3.2.2.2 (OnP_swap.1 h1)
  by_cases a : k = suc n i
  · exact .inl ⟨a, key i k hi hk a r h1 h2⟩
  · by_cases b : i = suc n k
    · exact .inr ⟨b, key k i hk hi b r h2 h1⟩
    · exact absurd (common h1 h2) (h.far i k hi hk hne a b)
/-- The order of points. -/
def Lex (a b : Int × Int) : Prop := a.1 < b.1 ∨ a.1 = b.1 ∧ a.2 < b.2
def upI (v x : Int × Int) : Int := if v.2 < x.2 then 1 else 0
theorem lex_up {v x y : Int × Int} (hx : Lex v x) (hy : Lex v y) (h1 : x.2 ≤ v.2) (h2 : v.2 < y.2) : 0 < crossI x y v := by
  have e : crossI x y v = (x.1 - v.1) * (y.2 - v.2) + (v.2 - x.2) * (y.1 - v.1) := by unfold crossI; grind
  unfold Lex at hx hy
  have := Int.mul_pos (show 0 < x.1 - v.1 by omega) (show 0 < y.2 - v.2 by omega)
  have := Int.mul_nonneg (show 0 ≤ v.2 - x.2 by omega) (show 0 ≤ y.1 - v.1 by omega)
  omega
theorem lex_cE {v x y : Int × Int} (hx : Lex v x) (hy : Lex v y) : cE v x y = upI v y - upI v x := by
  have k1 := fun h1 h2 => lex_up hx hy h1 h2
  have k2 := fun h1 h2 => lex_up hy hx h1 h2
  have e : crossI y x v = - crossI x y v := cross_swap x y v
  rw [e] at k2
  unfold cE upI
  generalize crossI x y v = C at *
  by_cases h1 : v.2 < x.2 <;> by_cases h2 : v.2 < y.2
  · rw [if_neg (by omega), if_neg (by omega), if_pos h2, if_pos h1]; rfl
  · have := k2 (by omega) h1
    rw [if_neg (by omega), if_pos (by omega), if_neg h2, if_pos h1]
  · have := k1 (by omega) h2
    rw [if_pos (by omega), if_neg (by omega), if_pos h2, if_neg h1]
  · rw [if_neg (by omega), if_neg (by omega), if_neg h2, if_neg h1]
/-- The crossings at the least post. -/
theorem least_cP {n : Nat} {p : Nat → Int × Int} (h3 : 3 ≤ n) (hl : ∀ i, i < n → i ≠ 1 → Lex (p 1) (p i)) : cP n p (p 1) = upI (p 1) (p 0) - upI (p 1) (p 2) := by
  have h0 := hl 0 (by omega) (by omega)
  have h2 := hl 2 (by omega) (by omega)
  have hq : 3 % n < n := Nat.mod_lt _ (by omega)
  have hq1 : 3 % n ≠ 1 := by
    rcases Nat.lt_or_ge 3 n with h | h
    · rw [Nat.mod_eq_of_lt h]; omega
    · obtain rfl : n = 3 := by omega
      omega
  have h4 := hl _ hq hq1
  rw [cP_three p h3, cE_b, cE_a, lex_cE h2 h4]
  have e : sumI (fun i => cE (p 1) (p (i + 3)) (p (suc n (i + 3)))) (n - 3) = sumI (fun i => (fun j => upI (p 1) (p ((j + 3) % n))) (i + 1) - (fun j => upI (p 1) (p ((j + 3) % n))) i) (n - 3) := by
    refine sumI_congr (fun i hi => ?_)
    have l1 : suc n (i + 3) < n := suc_lt (by omega)
    have l2 : suc n (i + 3) ≠ 1 := by rw [suc_eq (by omega)]; split <;> omega
    rw [lex_cE (hl _ (by omega) (by omega)) (hl _ l1 l2)]
    dsimp only
    rw [Nat.mod_eq_of_lt (show i + 3 < n by omega)]
    unfold suc
    rw [show i + 1 + 3 = i + 3 + 1 by omega]
  rw [e, sumI_tele (fun j => upI (p 1) (p ((j + 3) % n))), show n - 3 + 3 = n by omega, Nat.mod_self, Nat.zero_add]
  omega
theorem least_psi {z v b : Int × Int} (h : Free z v b) (hz : Lex v z) (hb : Lex v b) :
    (0 < crossI z v b ∧ upI v z - upI v b - psi z v b = 0) ∨ (crossI z v b < 0 ∧ upI v z - upI v b - psi z v b = -1) := by
  have k1 := fun h1 h2 => lex_up hz hb h1 h2
  have k2 := fun h1 h2 => lex_up hb hz h1 h2
  obtain ⟨s1, s2, s3⟩ := free_signs h
  have e1 : crossI b z v = - crossI z b v := cross_swap z b v
  have e2 : crossI v b z = - crossI z b v := by unfold crossI; grind
  have e3 : crossI v z b = crossI z b v := by unfold crossI; grind
  have e4 : crossI z v b = - crossI z b v := by unfold crossI; grind
  rw [e1] at k2
  rw [e2] at s1 s2 s3
  rw [e4]
  unfold upI psi Low
  rw [e3]
  unfold Lex at hz hb
  generalize crossI z b v = C at *
  by_cases h1 : v.2 < z.2 <;> by_cases h2 : v.2 < b.2
  · rw [if_pos h1, if_pos h2]; split <;> omega
  · have := k2 (by omega) h1
    rw [if_pos h1, if_neg h2]; split <;> omega
  · have := k1 (by omega) h2
    rw [if_neg h1, if_pos h2]; split <;> omega
  · rw [if_neg h1, if_neg h2]; split <;> omega
/-- The turn at the least post tells which side is the right one. -/
theorem Simp.least {n : Nat} {p : Nat → Int × Int} (h : Simp n p) (hl : ∀ i, i < n → i ≠ 1 → Lex (p 1) (p i)) :
    (0 < crossI (p 0) (p 1) (p 2) ∧ kap n p = 0) ∨ (crossI (p 0) (p 1) (p 2) < 0 ∧ kap n p = -1) := by
  obtain ⟨s0, s1, s2⟩ := suc01 h.h3
  have h3 := h.h3
  have F1 : Free (p 0) (p 1) (p 2) := by have := h.free (i := 0) (by omega); rwa [s0, s1] at this
  have hP := h.at_post (i := 0) (by omega)
  rw [s0, s1, least_cP h3 hl] at hP
  have := least_psi F1 (hl 0 (by omega) (by omega)) (hl 2 (by omega) (by omega))
  omega
theorem lex_total {a b : Int × Int} (h : a ≠ b) : Lex a b ∨ Lex b a := by
  have := pt_ne h
  unfold Lex
  omega
theorem lex_trans {a b c : Int × Int} (h : Lex a b) (k : Lex b c) : Lex a c := by unfold Lex at *; omega
theorem least_ex (p : Nat → Int × Int) (n : Nat) (hn : 0 < n) (hi : ∀ i k, i < n → k < n → p i = p k → i = k) : ∃ i, i < n ∧ ∀ k, k < n → k ≠ i → Lex (p i) (p k) := by
  induction n with
  | zero => omega
  | succ n ih =>
    by_cases h0 : n = 0
    · subst h0; exact ⟨0, by omega, fun k hk hk0 => by omega⟩
    · obtain ⟨i, hin, hl⟩ := ih (by omega) (fun i k h1 h2 => hi i k (by omega) (by omega))
      have hne : p i ≠ p n := fun e => by have := hi i n (by omega) (by omega) e; omega
      rcases lex_total hne with h | h
      · refine ⟨i, by omega, fun k hk hki => ?_⟩
        by_cases hkn : k = n
        · subst hkn; exact h
        · exact hl k (by omega) hki
      · refine ⟨n, by omega, fun k hk hkn => ?_⟩
        by_cases hki : k = i
        · subst hki; exact h
        · exact lex_trans h (hl k (by omega) hki)
/-- A polygon can be begun such that its second post is the least one. -/
theorem Simp.least_at {n : Nat} {p : Nat → Int × Int} (h : Simp n p) : ∃ k, ∀ i, i < n → i ≠ 1 → Lex (rotK n p k 1) (rotK n p k i) := by
  have h3 := h.h3
  obtain ⟨j, hj, hl⟩ := least_ex p n (by omega) (fun i k hi hk e => h.inj hi hk e)
  refine ⟨j + n - 1, fun i hi hi1 => ?_⟩
  have e1 : (1 + (j + n - 1)) % n = j := by rw [show 1 + (j + n - 1) = j + n by omega, Nat.add_mod_right, Nat.mod_eq_of_lt hj]
  unfold rotK
  rw [e1]
  refine hl _ (Nat.mod_lt _ (by omega)) (fun e => hi1 ?_)
  -- i + j - 1 is j modulo n only for i = 1
  by_cases h0 : i = 0
  · subst h0
    by_cases hj0 : j = 0
    · subst hj0
      rw [show 0 + (0 + n - 1) = n - 1 by omega, Nat.mod_eq_of_lt (by omega)] at e
      omega
    · rw [show 0 + (j + n - 1) = j - 1 + n by omega, Nat.add_mod_right, Nat.mod_eq_of_lt (by omega)] at e
      omega
  · rw [show i + (j + n - 1) = i - 1 + j + n by omega, Nat.add_mod_right] at e
    rcases Nat.lt_or_ge (i - 1 + j) n with h | h
    · rw [Nat.mod_eq_of_lt h] at e; omega
    · rw [Nat.mod_eq_sub_mod h, Nat.mod_eq_of_lt (by omega)] at e; omega
theorem Simp.kap_or {n : Nat} {p : Nat → Int × Int} (h : Simp n p) : kap n p = 0 ∨ kap n p = -1 := by
  obtain ⟨k, hk⟩ := h.least_at
  have := (h.begun k).least hk
  rw [kap_rotK h] at this
  omega
theorem nat_least (P : Nat → Prop) (h : ∃ t, P t) : ∃ t, P t ∧ ∀ s, s < t → ¬ P s := by
  obtain ⟨t, ht⟩ := h
  induction t using Nat.strongRecOn with
  | ind t ih =>
    by_cases hs : ∃ s, s < t ∧ P s
    · obtain ⟨s, h1, h2⟩ := hs
      exact ih s h1 h2
    · exact ⟨t, ht, fun s h1 h2 => hs ⟨s, h1, h2⟩⟩
theorem sumI_only {f : Nat → Int} {n k : Nat} (hk : k < n) (h : ∀ i, i < n → i ≠ k → f i = 0) : sumI f n = f k := by
  induction n with
  | zero => omega
  | succ n ih =>
    rw [sumI]
    by_cases e : k = n
    · subst e
      rw [sumI_zeros f k (fun i hi => h i (by omega) (by omega))]
      omega
    · rw [ih (by omega) (fun i hi hne => h i (by omega) hne), h n (by omega) (by omega)]
      omega
theorem sumI_only2 {f : Nat → Int} {n k l : Nat} (hk : k < n) (hl : l < n) (hkl : k ≠ l) (h : ∀ i, i < n → i ≠ k → i ≠ l → f i = 0) : sumI f n = f k + f l := by
  have e : sumI f n = sumI (fun i => if i = k then f i else 0) n + sumI (fun i => if i = k then 0 else f i) n := by
    have : ∀ n, sumI f n = sumI (fun i => if i = k then f i else 0) n + sumI (fun i => if i = k then 0 else f i) n := by
      intro n
      induction n with
      | zero => rfl
      | succ n ih => rw [sumI, sumI, sumI, ih]; split <;> omega
    exact this n
  rw [e, sumI_only hk (fun i _ hne => if_neg hne), sumI_only hl (fun i hi hne => by
    by_cases hik : i = k
    · exact if_pos hik
    · exact (if_neg hik).trans (h i hi hik hne)), if_pos rfl, if_neg (fun h => hkl h.symm)]
/-- A point beside all sides. -/
def OffP (n : Nat) (p : Nat → Int × Int) (q : Int × Int) : Prop := ∀ i, i < n → ¬ OnP (p i) (p (suc n i)) q
/-- All sides cross the line at height y at points of the grid. -/
def RowG (n : Nat) (p : Nat → Int × Int) (y : Int) : Prop := ∀ i, i < n → (p i).2 ≠ (p (suc n i)).2 → ∃ x : Int, crossI (p i) (p (suc n i)) (x, y) = 0
theorem row_cross (a b : Int × Int) (x x' y : Int) : crossI a b (x, y) = crossI a b (x', y) + (b.2 - a.2) * (x' - x) := by unfold crossI; grind
theorem off_left {q a b : Int × Int} {x : Int} (hx : crossI a b (x, q.2) = 0) (hl : a.2 ≤ q.2 ∧ q.2 < b.2 ∧ 0 < crossI a b q) : q.1 < x ∧ OnP a b (x, q.2) := by
  have e := row_cross a b q.1 x q.2
  rw [hx] at e
  have e' : crossI a b q = 0 + (b.2 - a.2) * (x - q.1) := e
  refine ⟨?_, on_level hx hl.1 (by show q.2 ≤ b.2; omega) (by omega)⟩
  have := sg_pos (k := b.2 - a.2) (x := x - q.1) (by omega) (by omega)
  omega
/-- A level way to the right, before any side is met. -/
theorem level_clear {q r c d : Int × Int} (hr : r.2 = q.2) (hlt : q.1 < r.1) (hx : c.2 ≠ d.2 → ∃ x : Int, crossI c d (x, q.2) = 0) (hq : ¬ OnP c d q) (hrr : ¬ OnP c d r)
    (hno : ∀ x : Int, q.1 < x → x < r.1 → ¬ OnP c d (x, q.2)) : ¬ MeetP q r c d := by
  have hc : OnP c d c := ⟨cross_ba _ _, by omega, by omega⟩
  have hd : OnP c d d := ⟨cross_ab _ _, by omega, by omega⟩
  have key : ∀ s : Int × Int, OnP c d s → ¬ OnP q r s := by
    intro s hs ⟨_, h1, h2⟩
    have e2 : s.2 = q.2 := by omega
    by_cases e : s.1 = q.1
    · have : s = q := Prod.ext e e2
      subst this; exact hq hs
    · by_cases e' : s.1 = r.1
      · have : s = r := Prod.ext e' (by omega)
        subst this; exact hrr hs
      · refine hno s.1 (by omega) (by omega) ?_
        rw [← e2]; exact hs
  rintro (h | h | h | h | ⟨h1, h2⟩)
  · exact key c hc h
  · exact key d hd h
  · exact hq h
  · exact hrr h
  · have e1 : ∀ s : Int × Int, crossI q r s = (r.1 - q.1) * (s.2 - q.2) := fun s => by unfold crossI; rw [hr]; grind
    rw [e1, e1] at h1
    have m1 := sg_mul (r.1 - q.1) (c.2 - q.2)
    have m2 := sg_mul (r.1 - q.1) (d.2 - q.2)
    have hcd : (c.2 < q.2 ∧ q.2 < d.2) ∨ (d.2 < q.2 ∧ q.2 < c.2) := by unfold Opp at h1; omega
    obtain ⟨x, hx⟩ := hx (by omega)
    have f1 := row_cross c d q.1 x q.2
    have f2 := row_cross c d r.1 x q.2
    rw [hx] at f1 f2
    have f1' : crossI c d q = 0 + (d.2 - c.2) * (x - q.1) := f1
    have f2' : crossI c d r = 0 + (d.2 - c.2) * (x - r.1) := by rw [← f2, ← hr]
    have m3 := sg_mul (d.2 - c.2) (x - q.1)
    have m4 := sg_mul (d.2 - c.2) (x - r.1)
    refine hno x ?_ ?_ ?_
    · unfold Opp at h2; omega
    · unfold Opp at h2; omega
    · rcases hcd with h | h
      · exact on_level hx (by show c.2 ≤ q.2; omega) (by show q.2 ≤ d.2; omega) (by omega)
      · exact OnP_swap.1 (on_level (by rw [cross_swap]; omega) (by show d.2 ≤ q.2; omega) (by show q.2 ≤ c.2; omega) (by omega))
theorem level_same {q r a b : Int × Int} (hr : r.2 = q.2) (h : ¬ MeetP q r a b) : cE q a b = cE r a b := by
  have := seg_side (q := q) (m := r) (a := a) (b := b) (by omega) h
  have e1 : fE q r a = 0 := by unfold fE; rw [if_neg (by omega)]
  have e2 : fE q r b = 0 := by unfold fE; rw [if_neg (by omega)]
  omega
/-- From a point whose level way to the right comes to a post. -/
theorem see_post {q z a b : Int × Int} (h : Free z a b) (h1 : a.2 = q.2) (h2 : q.1 < a.1) (k : Int) (c : Int) (hc : c = k + psi z a b) : c + cE q z a + cE q a b = k ∨ c + cE q z a + cE q a b = k + 1 := by
  obtain ⟨s1, s2, s3⟩ := free_signs h
  have hb := pt_ne h.1
  have hz := pt_ne h.2.1
  have e1 : crossI z a q = (z.2 - a.2) * (q.1 - a.1) := by unfold crossI; rw [h1]; grind
  have e2 : crossI a b q = (b.2 - a.2) * (a.1 - q.1) := by unfold crossI; rw [h1]; grind
  have m1 := sg_mul (z.2 - a.2) (q.1 - a.1)
  have m2 := sg_mul (b.2 - a.2) (a.1 - q.1)
  rw [← e1] at m1
  rw [← e2] at m2
  have e3 : crossI a z b = - crossI a b z := by unfold crossI; grind
  rw [hc]
  unfold cE psi Low
  rw [e3]
  clear e1 e2 e3
  generalize crossI z a q = A at *
  generalize crossI a b q = B at *
  generalize crossI a b z = C at *
  have w1 : a.2 < z.2 ∨ z.2 ≤ a.2 := by omega
  have w2 : a.2 < b.2 ∨ b.2 ≤ a.2 := by omega
  rcases w1 with w1 | w1 <;> rcases w2 with w2 | w2
  · rw [if_neg (show ¬ (z.2 ≤ q.2 ∧ q.2 < a.2 ∧ 0 < A) by omega), if_pos (show a.2 ≤ q.2 ∧ q.2 < z.2 ∧ A < 0 by omega), if_pos (show a.2 ≤ q.2 ∧ q.2 < b.2 ∧ 0 < B by omega), if_neg (show ¬ (b.2 ≤ q.2 ∧ q.2 < a.2 ∧ B < 0) by omega)]
    split <;> omega
  · rw [if_neg (show ¬ (z.2 ≤ q.2 ∧ q.2 < a.2 ∧ 0 < A) by omega), if_pos (show a.2 ≤ q.2 ∧ q.2 < z.2 ∧ A < 0 by omega), if_neg (show ¬ (a.2 ≤ q.2 ∧ q.2 < b.2 ∧ 0 < B) by omega), if_neg (show ¬ (b.2 ≤ q.2 ∧ q.2 < a.2 ∧ B < 0) by omega)]
    split <;> omega
  · rw [if_neg (show ¬ (z.2 ≤ q.2 ∧ q.2 < a.2 ∧ 0 < A) by omega), if_neg (show ¬ (a.2 ≤ q.2 ∧ q.2 < z.2 ∧ A < 0) by omega), if_pos (show a.2 ≤ q.2 ∧ q.2 < b.2 ∧ 0 < B by omega), if_neg (show ¬ (b.2 ≤ q.2 ∧ q.2 < a.2 ∧ B < 0) by omega)]
    split <;> omega
  · rw [if_neg (show ¬ (z.2 ≤ q.2 ∧ q.2 < a.2 ∧ 0 < A) by omega), if_neg (show ¬ (a.2 ≤ q.2 ∧ q.2 < z.2 ∧ A < 0) by omega), if_neg (show ¬ (a.2 ≤ q.2 ∧ q.2 < b.2 ∧ 0 < B) by omega), if_neg (show ¬ (b.2 ≤ q.2 ∧ q.2 < a.2 ∧ B < 0) by omega)]
    split <;> omega
theorem Simp.jordan_row {n : Nat} {p : Nat → Int × Int} (h : Simp n p) {q : Int × Int} (hq : OffP n p q) (hg : RowG n p q.2) : cP n p q = kap n p ∨ cP n p q = kap n p + 1 := by
  by_cases hex : ∃ t : Nat, ∃ i, i < n ∧ OnP (p i) (p (suc n i)) (q.1 + 1 + t, q.2)
  · -- the first side that is met
    obtain ⟨t, ⟨i, hi, hon⟩, hmin⟩ : ∃ t : Nat, (∃ i, i < n ∧ OnP (p i) (p (suc n i)) (q.1 + 1 + t, q.2)) ∧ ∀ s : Nat, s < t → ¬ ∃ i, i < n ∧ OnP (p i) (p (suc n i)) (q.1 + 1 + s, q.2) := by
      exact nat_least _ hex
    obtain ⟨r, hr⟩ : ∃ r : Int × Int, r = (q.1 + 1 + t, q.2) := ⟨_, rfl⟩
    rw [← hr] at hon
    have hr1 : r.1 = q.1 + 1 + t := by rw [hr]
    have hr2 : r.2 = q.2 := by rw [hr]
    have hno : ∀ k, k < n → ∀ x : Int, q.1 < x → x < r.1 → ¬ OnP (p k) (p (suc n k)) (x, q.2) := by
      intro k hk x h1 h2 ho
      refine hmin (x - q.1 - 1).toNat (by omega) ⟨k, hk, ?_⟩
      rw [show q.1 + 1 + ((x - q.1 - 1).toNat : Int) = x by omega]
      exact ho
    have hsame : ∀ k, k < n → ¬ OnP (p k) (p (suc n k)) r → cE q (p k) (p (suc n k)) - cE r (p k) (p (suc n k)) = 0 := by
      intro k hk hn
      have := level_same hr2 (level_clear hr2 (by omega) (hg k hk) (hq k hk) hn (hno k hk))
      omega
    have hd : cP n p q - cP n p r = sumI (fun k => cE q (p k) (p (suc n k)) - cE r (p k) (p (suc n k))) n := by rw [sumI_sub]; rfl
    by_cases hv : ∃ j, j < n ∧ r = p (suc n j)
    · obtain ⟨j, hj, hrj⟩ := hv
      have hj1 := suc_lt hj
      have hne : suc n j ≠ j := by have h3 := h.h3; rw [suc_eq hj]; split <;> omega
      rw [sumI_only2 hj hj1 (fun e => hne e.symm) (fun k hk h1 h2 => hsame k hk (fun ho => by
        rw [hrj] at ho
        rcases Classical.em (suc n j = suc n k) with e | e
        · exact h1 (suc_inj hj hk e).symm
        · exact h.post_off hk hj1 (fun e => h2 e.symm) e ho))] at hd
      have hP := h.at_post hj
      rw [← hrj] at hP
      have F := h.free hj
      rw [hrj, cE_b, cE_a, ← hrj] at hd
      rw [← hrj] at F
      have := see_post (q := q) F hr2 (by omega) (kap n p) (cP n p r) hP
      omega
    · have hvi : r ≠ p (suc n i) := fun e => hv ⟨i, hi, e⟩
      have hvi' : r ≠ p i := fun e => by
        obtain ⟨j, hj, e'⟩ := suc_sur hi
        exact hv ⟨j, hj, by rw [e']; exact e⟩
      rw [sumI_only hi (fun k hk hki => hsame k hk (fun ho => by
        rcases h.two_sides hi hk hki hon ho with ⟨e, e'⟩ | ⟨e, e'⟩
        · exact hvi (by rw [← e]; exact e')
        · exact hvi' e')), cE_on hon.1] at hd
      have hS := h.at_side hi hon hvi' hvi
      -- the side is not level
      obtain ⟨o1, o2, o3⟩ := id hon
      have hlev : (p i).2 ≠ (p (suc n i)).2 := by
        intro e
        have hsub : OnP (p i) (p (suc n i)) (r.1 - 1, q.2) := by
          have n1 : r.1 ≠ (p i).1 := fun e1 => hvi' (Prod.ext e1 (by omega))
          have n2 : r.1 ≠ (p (suc n i)).1 := fun e1 => hvi (Prod.ext e1 (by omega))
          refine ⟨by unfold crossI; rw [← e, show q.2 = (p i).2 by omega]; grind, ?_, ?_⟩
          · show (p i).1 ≤ r.1 - 1 ∧ r.1 - 1 ≤ _ ∨ _ ≤ r.1 - 1 ∧ r.1 - 1 ≤ _
            omega
          · show (p i).2 ≤ q.2 ∧ q.2 ≤ _ ∨ _ ≤ q.2 ∧ q.2 ≤ _
            omega
        by_cases ht : r.1 - 1 = q.1
        · rw [ht] at hsub
          exact hq i hi hsub
        · exact hno i hi (r.1 - 1) (by omega) (by omega) hsub
      have hn1 : r.2 ≠ (p i).2 := by
        intro e
        have := on_bet hon
        obtain ⟨k, l, B⟩ := this
        by_cases hl : l = 0
        · subst hl; exact hvi' (bet_first B)
        · have := bet_level B hl; omega
      have hn2 : r.2 ≠ (p (suc n i)).2 := by
        intro e
        obtain ⟨k, l, B⟩ := on_bet (OnP_swap.1 hon)
        by_cases hl : l = 0
        · subst hl; exact hvi (bet_first B)
        · have := bet_level B hl; omega
      have f1 := row_cross (p i) (p (suc n i)) q.1 r.1 q.2
      have f2 : crossI (p i) (p (suc n i)) (r.1, q.2) = 0 := by rw [← hr2]; exact o1
      rw [f2] at f1
      have f1' : crossI (p i) (p (suc n i)) q = 0 + ((p (suc n i)).2 - (p i).2) * (r.1 - q.1) := f1
      have m := sg_mul ((p (suc n i)).2 - (p i).2) (r.1 - q.1)
      have hlow : lowI (p i) (p (suc n i)) = if (p (suc n i)).2 < (p i).2 then 1 else 0 := by
        unfold lowI Low
        exact ite_iff (by omega) _ _
      rw [hlow] at hS
      unfold cE at hd
      by_cases hup : (p i).2 < (p (suc n i)).2
      · rw [if_neg (by omega)] at hS
        rw [if_pos (by omega), if_neg (by omega)] at hd
        omega
      · rw [if_pos (by omega)] at hS
        rw [if_neg (by omega), if_pos (by omega)] at hd
        omega
  · have hz : cP n p q = 0 := sumI_zeros _ _ (fun i hi => by
      have none : ∀ x : Int, q.1 < x → ¬ OnP (p i) (p (suc n i)) (x, q.2) := by
        intro x hx ho
        refine hex ⟨(x - q.1 - 1).toNat, i, hi, ?_⟩
        rw [show q.1 + 1 + ((x - q.1 - 1).toNat : Int) = x by omega]
        exact ho
      unfold cE
      rw [if_neg (fun hl => ?_), if_neg (fun hl => ?_)]
      · rfl
      · obtain ⟨x, hx⟩ := hg i hi (by omega)
        have := off_left (q := q) (a := p (suc n i)) (b := p i) (x := x) (by rw [cross_swap]; omega) ⟨hl.1, hl.2.1, by rw [cross_swap]; omega⟩
        exact none x this.1 (OnP_swap.1 this.2)
      · obtain ⟨x, hx⟩ := hg i hi (by omega)
        have := off_left (q := q) (x := x) hx hl
        exact none x this.1 this.2)
    have := h.kap_or
    omega
def scA (D : Int) (a : Int × Int) : Int × Int := (D * a.1, D * a.2)
theorem lt_sc {D x y : Int} (h : 0 < D) : D * x < D * y ↔ x < y := ⟨fun k => Int.lt_of_mul_lt_mul_left k (by omega), fun k => Int.mul_lt_mul_of_pos_left k h⟩
theorem le_sc {D x y : Int} (h : 0 < D) : D * x ≤ D * y ↔ x ≤ y := ⟨fun k => Int.le_of_mul_le_mul_left k h, fun k => Int.mul_le_mul_of_nonneg_left k (by omega)⟩
theorem eq_sc {D x y : Int} (h : 0 < D) : D * x = D * y ↔ x = y := ⟨fun k => Int.eq_of_mul_eq_mul_left (by omega) k, fun k => by rw [k]⟩
theorem cross_sc (D : Int) (a b c : Int × Int) : crossI (scA D a) (scA D b) (scA D c) = D * D * crossI a b c := by unfold crossI scA; grind
theorem pos_sc {D x : Int} (h : 0 < D) : (0 < D * D * x ↔ 0 < x) ∧ (D * D * x < 0 ↔ x < 0) ∧ (D * D * x = 0 ↔ x = 0) := by
  have h2 : 0 < D * D := Int.mul_pos h h
  have := sg_mul (D * D) x
  omega
theorem OnP_sc {D : Int} (h : 0 < D) {a b c : Int × Int} : OnP (scA D a) (scA D b) (scA D c) ↔ OnP a b c := by
  unfold OnP
  rw [cross_sc, (pos_sc h).2.2]
  unfold scA
  simp only [le_sc h]
theorem Opp_sc {D : Int} (h : 0 < D) {x y : Int} : Opp (D * D * x) (D * D * y) ↔ Opp x y := by
  unfold Opp
  rw [(pos_sc h).1, (pos_sc h).1, (pos_sc h).2.1, (pos_sc h).2.1]
theorem MeetP_sc {D : Int} (h : 0 < D) {a b c d : Int × Int} : MeetP (scA D a) (scA D b) (scA D c) (scA D d) ↔ MeetP a b c d := by
  unfold MeetP
  simp only [OnP_sc h, cross_sc, Opp_sc h]
theorem scA_inj {D : Int} (h : 0 < D) {a b : Int × Int} (e : scA D a = scA D b) : a = b := by
  unfold scA at e
  rw [Prod.mk.injEq, eq_sc h, eq_sc h] at e
  exact Prod.ext e.1 e.2
theorem Simp.sc {n : Nat} {p : Nat → Int × Int} (h : Simp n p) {D : Int} (hD : 0 < D) : Simp n (fun i => scA D (p i)) :=
  ⟨h.h3, fun i hi e => h.ne i hi (scA_inj hD e), fun i hi => by rw [OnP_sc hD, OnP_sc hD]; exact h.adj i hi, fun i k hi hk a b c => by rw [MeetP_sc hD]; exact h.far i k hi hk a b c⟩
theorem cE_sc {D : Int} (h : 0 < D) (q a b : Int × Int) : cE (scA D q) (scA D a) (scA D b) = cE q a b := by
  unfold cE
  rw [cross_sc]
  have k1 : ((scA D a).2 ≤ (scA D q).2 ∧ (scA D q).2 < (scA D b).2 ∧ 0 < D * D * crossI a b q) ↔ (a.2 ≤ q.2 ∧ q.2 < b.2 ∧ 0 < crossI a b q) := by
    rw [(pos_sc h).1]; unfold scA; simp only [le_sc h, lt_sc h]
  have k2 : ((scA D b).2 ≤ (scA D q).2 ∧ (scA D q).2 < (scA D a).2 ∧ D * D * crossI a b q < 0) ↔ (b.2 ≤ q.2 ∧ q.2 < a.2 ∧ crossI a b q < 0) := by
    rw [(pos_sc h).2.1]; unfold scA; simp only [le_sc h, lt_sc h]
  rw [ite_iff k1, ite_iff k2]
theorem cP_sc {D : Int} (h : 0 < D) (n : Nat) (p : Nat → Int × Int) (q : Int × Int) : cP n (fun i => scA D (p i)) (scA D q) = cP n p q := by
  unfold cP
  exact sumI_congr (fun i _ => cE_sc h _ _ _)
theorem low_sc {D : Int} (h : 0 < D) (a b : Int × Int) : Low (scA D a) (scA D b) ↔ Low a b := by
  unfold Low scA
  simp only [lt_sc h, eq_sc h]
theorem psi_sc {D : Int} (h : 0 < D) (z a b : Int × Int) : psi (scA D z) (scA D a) (scA D b) = psi z a b := by
  unfold psi
  refine ite_iff ?_ _ _
  rw [low_sc h, low_sc h, cross_sc, (pos_sc h).1]
theorem kap_sc {D : Int} (h : 0 < D) (n : Nat) (p : Nat → Int × Int) : kap n (fun i => scA D (p i)) = kap n p := by
  unfold kap vP
  rw [cP_sc h, psi_sc h]
theorem row_ex (p : Nat → Int × Int) (n N : Nat) : ∃ D : Int, 0 < D ∧ ∀ i, i < N → (p i).2 ≠ (p (suc n i)).2 → ∃ m : Int, D = m * ((p (suc n i)).2 - (p i).2) := by
  induction N with
  | zero => exact ⟨1, by omega, fun i hi => by omega⟩
  | succ N ih =>
    obtain ⟨D, hD, hm⟩ := ih
    by_cases hl : (p N).2 = (p (suc n N)).2
    · refine ⟨D, hD, fun i hi hne => ?_⟩
      by_cases hiN : i = N
      · subst hiN; exact absurd hl hne
      · exact hm i (by omega) hne
    · refine ⟨D * (((p (suc n N)).2 - (p N).2).natAbs : Int), Int.mul_pos hD (by omega), fun i hi hne => ?_⟩
      by_cases hiN : i = N
      · subst hiN
        rcases Int.le_total ((p (suc n i)).2 - (p i).2) 0 with h | h
        · exact ⟨-D, by rw [Int.ofNat_natAbs_of_nonpos h]; grind⟩
        · exact ⟨D, by rw [Int.natAbs_of_nonneg h]⟩
      · obtain ⟨m, e⟩ := hm i (by omega) hne
        exact ⟨m * (((p (suc n N)).2 - (p N).2).natAbs : Int), by rw [e]; grind⟩
/-- The sides enclose no point more than once. -/
theorem Simp.jordan {n : Nat} {p : Nat → Int × Int} (h : Simp n p) {q : Int × Int} (hq : OffP n p q) : cP n p q = kap n p ∨ cP n p q = kap n p + 1 := by
  obtain ⟨D, hD, hm⟩ := row_ex p n n
  have := (h.sc hD).jordan_row (q := scA D q) (fun i hi => by rw [OnP_sc hD]; exact hq i hi) (fun i hi hne => by
    have hne' : (p i).2 ≠ (p (suc n i)).2 := fun e => hne (by show D * (p i).2 = D * (p (suc n i)).2; rw [e])
    obtain ⟨m, e⟩ := hm i hi hne'
    refine ⟨D * (p i).1 + m * (q.2 - (p i).2) * ((p (suc n i)).1 - (p i).1), ?_⟩
    have e1 : crossI (scA D (p i)) (scA D (p (suc n i))) (D * (p i).1 + m * (q.2 - (p i).2) * ((p (suc n i)).1 - (p i).1), (scA D q).2) =
        D * ((p (suc n i)).1 - (p i).1) * (q.2 - (p i).2) * (D - m * ((p (suc n i)).2 - (p i).2)) := by unfold crossI scA; grind
    rw [e1, ← e, Int.sub_self, Int.mul_zero])
  rw [cP_sc hD, kap_sc hD] at this
  exact this
end Go.Proofs.Ytnjegnlfdbbleaa
