/- Layer 1, plain arithmetic: when two ways that follow one another lead back over one another. -/
import Derived.Test.YtnjegnlfdbbleaaC
import Derived.Test.YtnjegnlfdbbleaaF
namespace Go.Proofs.Ytnjegnlfdbbleaa

theorem neg_of_pos {x s : Int} (h : x * s ≤ 0) (hx : 0 < x) : s ≤ 0 := by
  by_cases hs : 0 < s
  · have := Int.mul_pos hx hs; omega
  · omega
theorem pos_of_neg {x s : Int} (h : x * s ≤ 0) (hx : x < 0) : 0 ≤ s := by
  by_cases hs : s < 0
  · have := Int.mul_pos_of_neg_of_neg hx hs; omega
  · omega
theorem both_le {x y s t : Int} (h : x * t = y * s) (hn : x * s + y * t < 0) : x * s ≤ 0 ∧ y * t ≤ 0 := by
  have e : (x * s) * (y * t) = (x * t) * (x * t) := by
    have : (x * s) * (y * t) = (x * t) * (y * s) := by simp only [Int.mul_assoc, Int.mul_comm, Int.mul_left_comm]
    rw [this, ← h]
  have hsq : 0 ≤ (x * t) * (x * t) := by
    rcases Int.le_total 0 (x * t) with h0 | h0
    · exact Int.mul_nonneg h0 h0
    · exact Int.mul_nonneg_of_nonpos_of_nonpos h0 h0
  constructor
  · by_cases hp : 0 < x * s
    · have := Int.mul_neg_of_pos_of_neg hp (show y * t < 0 by omega); omega
    · omega
  · by_cases hp : 0 < y * t
    · have := Int.mul_neg_of_neg_of_pos (show x * s < 0 by omega) hp; omega
    · omega
theorem abs_either {x y s t : Int} (h : x * t = y * s) : (s.natAbs ≤ x.natAbs ∧ t.natAbs ≤ y.natAbs) ∨ (x.natAbs ≤ s.natAbs ∧ y.natAbs ≤ t.natAbs) := by
  have h' : x.natAbs * t.natAbs = y.natAbs * s.natAbs := by rw [← Int.natAbs_mul, ← Int.natAbs_mul, h]
  generalize x.natAbs = X at *
  generalize y.natAbs = Y at *
  generalize s.natAbs = S at *
  generalize t.natAbs = T at *
  by_cases h1 : S ≤ X
  · by_cases h2 : T ≤ Y
    · exact .inl ⟨h1, h2⟩
    · right
      have h3 : X * T ≤ Y * X := by rw [h']; exact Nat.mul_le_mul_left _ h1
      have h4 : X * (Y + 1) ≤ X * T := Nat.mul_le_mul_left _ (by omega)
      rw [Nat.mul_comm Y X, Nat.mul_add] at *
      omega
  · by_cases h2 : Y ≤ T
    · exact .inr ⟨by omega, h2⟩
    · exfalso
      have h3 : Y * (X + 1) ≤ Y * S := Nat.mul_le_mul_left _ (by omega)
      have h4 : X * T ≤ X * Y := Nat.mul_le_mul_left _ (by omega)
      rw [Nat.mul_comm X Y] at h4
      rw [Nat.mul_add] at h3
      omega
theorem btw_of {x s : Int} (h : x * s ≤ 0) (hl : s.natAbs ≤ x.natAbs) : (-x ≤ s ∧ s ≤ 0) ∨ (0 ≤ s ∧ s ≤ -x) := by
  rcases Int.lt_trichotomy x 0 with hx | hx | hx
  · have := pos_of_neg h hx; omega
  · omega
  · have := neg_of_pos h hx; omega
theorem le_of_btw {x s : Int} (h : (-x ≤ s ∧ s ≤ 0) ∨ (0 ≤ s ∧ s ≤ -x)) : x * s ≤ 0 ∧ (s ≠ 0 → x * s < 0) := by
  rcases h with ⟨h1, h2⟩ | ⟨h1, h2⟩
  · refine ⟨Int.mul_nonpos_of_nonneg_of_nonpos (by omega) h2, fun hs => Int.mul_neg_of_pos_of_neg (by omega) (by omega)⟩
  · refine ⟨Int.mul_nonpos_of_nonpos_of_nonneg (by omega) h1, fun hs => Int.mul_neg_of_neg_of_pos (by omega) (by omega)⟩

theorem back_iff {a b c : Int × Int} (hab : a ≠ b) (hbc : b ≠ c) : BackP a b c ↔ OnP a b c ∨ OnP b c a := by
  obtain ⟨a1, a2⟩ := a
  obtain ⟨b1, b2⟩ := b
  obtain ⟨c1, c2⟩ := c
  have hab' : b1 - a1 ≠ 0 ∨ b2 - a2 ≠ 0 := by
    rcases Int.decEq a1 b1 with h | h
    · omega
    · right; intro h2; exact hab (by rw [h, show a2 = b2 by omega])
  have hbc' : c1 - b1 ≠ 0 ∨ c2 - b2 ≠ 0 := by
    rcases Int.decEq b1 c1 with h | h
    · omega
    · right; intro h2; exact hbc (by rw [h, show b2 = c2 by omega])
  unfold BackP OnP crossI aheadI
  simp only []
  obtain ⟨x, hx⟩ : ∃ x, x = b1 - a1 := ⟨_, rfl⟩
  obtain ⟨y, hy⟩ : ∃ y, y = b2 - a2 := ⟨_, rfl⟩
  obtain ⟨s, hs⟩ : ∃ s, s = c1 - b1 := ⟨_, rfl⟩
  obtain ⟨t, ht⟩ : ∃ t, t = c2 - b2 := ⟨_, rfl⟩
  rw [← hx, ← hy] at hab'
  rw [← hs, ← ht] at hbc'
  have e1 : (b1 - a1) * (c2 - a2) - (b2 - a2) * (c1 - a1) = x * t - y * s := by
    rw [← hx, ← hy, show c2 - a2 = y + t by omega, show c1 - a1 = x + s by omega, Int.mul_add, Int.mul_add, Int.mul_comm y x]; omega
  have e2 : (c1 - b1) * (a2 - b2) - (c2 - b2) * (a1 - b1) = x * t - y * s := by
    rw [← hs, ← ht, show a2 - b2 = -y by omega, show a1 - b1 = -x by omega, Int.mul_neg, Int.mul_neg, Int.mul_comm s y, Int.mul_comm t x]; omega
  have e3 : (b1 - a1) * (c1 - b1) + (b2 - a2) * (c2 - b2) = x * s + y * t := by rw [← hx, ← hy, ← hs, ← ht]
  rw [e1, e2, e3]
  constructor
  · rintro ⟨h1, h2⟩
    have h1' : x * t = y * s := by omega
    obtain ⟨h3, h4⟩ := both_le h1' h2
    rcases abs_either h1' with ⟨h5, h6⟩ | ⟨h5, h6⟩
    · have := btw_of h3 h5
      have := btw_of h4 h6
      left; omega
    · rw [Int.mul_comm] at h3 h4
      have := btw_of h3 h5
      have := btw_of h4 h6
      right; omega
  · rintro (⟨h1, h2, h3⟩ | ⟨h1, h2, h3⟩)
    · have q1 := le_of_btw (x := x) (s := s) (by omega)
      have q2 := le_of_btw (x := y) (s := t) (by omega)
      refine ⟨h1, ?_⟩
      rcases hbc' with h | h
      · have := q1.2 h; omega
      · have := q2.2 h; omega
    · have q1 := le_of_btw (x := s) (s := x) (by omega)
      have q2 := le_of_btw (x := t) (s := y) (by omega)
      rw [Int.mul_comm s x] at q1
      rw [Int.mul_comm t y] at q2
      refine ⟨h1, ?_⟩
      rcases hab' with h | h
      · have := q1.2 h; omega
      · have := q2.2 h; omega

/-- Both tests ask the same. -/
theorem pen_iff (n : Nat) (p : Nat → Int × Int) : (3 ≤ n ∧ n ≤ 10 ∧ (∀ i, i < n → Sm 50 (p i)) ∧ SimP n p) ↔ PenP n p := by
  constructor
  · rintro ⟨h3, h10, hs, hm⟩
    refine ⟨h3, h10, fun i hi => ⟨hs i hi, (hm i hi).1.1⟩, fun i hi => ⟨?_, (hm i hi).2⟩⟩
    have hq : (i + 1) % n < n := Nat.mod_lt _ (by omega)
    have hn := (hm _ hq).1.1
    rw [show ((i + 1) % n + 1) % n = (i + 2) % n by rw [Nat.mod_add_mod]] at hn
    have := (hm i hi).1.2
    rw [back_iff (hm i hi).1.1 hn, not_or] at this
    exact this
  · rintro ⟨h3, h10, h1, h2⟩
    refine ⟨h3, h10, fun i hi => (h1 i hi).1, fun i hi => ⟨⟨(h1 i hi).2, ?_⟩, (h2 i hi).2⟩⟩
    have hq : (i + 1) % n < n := Nat.mod_lt _ (by omega)
    have hn := (h1 _ hq).2
    rw [show ((i + 1) % n + 1) % n = (i + 2) % n by rw [Nat.mod_add_mod]] at hn
    rw [back_iff (h1 i hi).2 hn, not_or]
    exact (h2 i hi).1
end Go.Proofs.Ytnjegnlfdbbleaa
