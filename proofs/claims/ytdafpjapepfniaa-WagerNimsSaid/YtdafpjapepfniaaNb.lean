/- Layer 7, mathematics: Euclid's game. -/
import Derived.WalkKit
namespace Go.Proofs.Ytdafpjapepfniaa

/-- The quotients of Euclid's algorithm. -/
def qs (x y : Nat) : List Nat := if h : y = 0 then [] else x / y :: qs y (x % y)
termination_by y
decreasing_by exact Nat.mod_lt _ (by omega)
theorem qs_zero (x : Nat) : qs x 0 = [] := by rw [qs]; simp
theorem qs_pos {x y : Nat} (h : 0 < y) : qs x y = x / y :: qs y (x % y) := by rw [qs, dif_neg (by omega)]
/-- Has the player who is next the first choice, or the last move? -/
def hc : List Nat → Bool
  | [] => false
  | [_] => true
  | q :: p :: l => if q = 1 then !hc (p :: l) else true
/-- How many quotients ahead of the last one are 1, from the first one on. -/
def ones : List Nat → Nat
  | [] => 0
  | [_] => 0
  | q :: p :: l => if q = 1 then ones (p :: l) + 1 else 0
theorem hc_ones : ∀ l : List Nat, l ≠ [] → hc l = (ones l % 2 == 0)
  | [], h => absurd rfl h
  | [_], _ => rfl
  | q :: p :: l, _ => by
    rw [hc, ones]
    by_cases e : q = 1
    · rw [if_pos e, if_pos e, hc_ones (p :: l) (by simp)]
      rcases Nat.mod_two_eq_zero_or_one (ones (p :: l)) with h | h
      · rw [h, show (ones (p :: l) + 1) % 2 = 1 by omega]; rfl
      · rw [h, show (ones (p :: l) + 1) % 2 = 0 by omega]; rfl
    · rw [if_neg e, if_neg e]; rfl
theorem no_gold : ∀ n y r : Nat, y ≤ n → 0 < r → y * y ≠ y * r + r * r
  | 0, y, r, h, hr, e => by
    obtain rfl : y = 0 := by omega
    have : 0 < r * r := Nat.mul_pos hr hr
    omega
  | n + 1, y, r, h, hr, e => by
    have hlt : r < y := by
      refine Nat.lt_of_not_le fun hle => ?_
      have h1 : y * y ≤ y * r := Nat.mul_le_mul_left y hle
      have h2 : 0 < r * r := Nat.mul_pos hr hr
      omega
    obtain ⟨s, rfl⟩ : ∃ s, y = r + s := ⟨y - r, by omega⟩
    refine no_gold n r s (by omega) (by omega) ?_
    grind
/-- The greater heap is the same, or more than the golden ratio times the lesser one. -/
def Gold (x y : Nat) : Prop := x = y ∨ x * y + y * y < x * x
theorem gold_two {x y : Nat} (hy : 0 < y) (h : 2 * y ≤ x) : x * y + y * y < x * x := by
  have h1 : x * (2 * y) ≤ x * x := Nat.mul_le_mul_left x h
  have h2 : (2 * y) * y ≤ x * y := Nat.mul_le_mul_right y h
  have h3 : 0 < y * y := Nat.mul_pos hy hy
  grind
theorem div_one {x y : Nat} (hy : 0 < y) (hx : y ≤ x) (h : x < 2 * y) : x / y = 1 ∧ x % y = x - y := by
  have h1 : x / y = 1 := Nat.div_eq_of_lt_le (by omega) (by omega)
  have h2 := Nat.div_add_mod x y
  rw [h1] at h2
  exact ⟨h1, by omega⟩
theorem div_two {x y : Nat} (hy : 0 < y) (h : 2 * y ≤ x) : 2 ≤ x / y := (Nat.le_div_iff_mul_le hy).2 h
theorem hc_big {x y : Nat} (hy : 0 < y) (h : 2 * y ≤ x) : hc (qs x y) = true := by
  have h2 := div_two hy h
  rw [qs_pos hy]
  generalize qs y (x % y) = l
  cases l with
  | nil => rfl
  | cons p l => rw [hc, if_neg (by omega)]
theorem hc_same {y : Nat} (hy : 0 < y) : hc (qs y y) = true := by
  rw [qs_pos hy, Nat.mod_self, qs_zero]; rfl
theorem hc_step {x y : Nat} (h1 : y < x) (h2 : x < 2 * y) : hc (qs x y) = !hc (qs y (x - y)) := by
  obtain ⟨e1, e2⟩ := div_one (x := x) (y := y) (by omega) (by omega) h2
  rw [qs_pos (by omega), e1, e2, qs_pos (x := y) (y := x - y) (by omega), hc, if_pos rfl]
theorem hc_gold : ∀ n x y : Nat, x ≤ n → 0 < y → y ≤ x → (hc (qs x y) = true ↔ Gold x y)
  | 0, x, y, h, hy, hx => by omega
  | n + 1, x, y, h, hy, hx => by
    by_cases e2 : 2 * y ≤ x
    · exact ⟨fun _ => .inr (gold_two hy e2), fun _ => hc_big hy e2⟩
    · by_cases e1 : x = y
      · subst e1; exact ⟨fun _ => .inl rfl, fun _ => hc_same hy⟩
      · rw [hc_step (by omega) (by omega)]
        have ih := hc_gold n y (x - y) (by omega) (by omega) (by omega)
        obtain ⟨r, rfl⟩ : ∃ r, x = y + r := ⟨x - y, by omega⟩
        rw [Nat.add_sub_cancel_left] at *
        have hng := no_gold y y r (Nat.le_refl _) (by omega)
        have key : ((y + r) * y + y * y < (y + r) * (y + r)) ↔ ¬ (y * r + r * r < y * y) := by
          have e : (y + r) * (y + r) = (y + r) * y + (y * r + r * r) := by grind
          rw [e]; omega
        have hg : Gold (y + r) y ↔ (y + r) * y + y * y < (y + r) * (y + r) := ⟨fun h => by rcases h with h | h; omega; exact h, .inr⟩
        have hg' : Gold y r ↔ y * r + r * r < y * y := ⟨fun h => by rcases h with h | h; omega; exact h, .inr⟩
        rw [hg, key, ← hg', ← ih]
        simp
/-- Does the player who is next win Euclid's game? -/
def hcw (a b : Nat) : Bool := hc (qs (max a b) (min a b))
theorem hcw_zero (y : Nat) : hcw 0 y = false := by unfold hcw; rw [Nat.zero_max, Nat.zero_min, qs_zero]; rfl
theorem hcw_comm (a b : Nat) : hcw a b = hcw b a := by unfold hcw; rw [Nat.max_comm, Nat.min_comm]
theorem hcw_ge {x y : Nat} (h : y ≤ x) : hcw x y = hc (qs x y) := by unfold hcw; rw [Nat.max_eq_left h, Nat.min_eq_right h]
theorem hcw_le {x y : Nat} (h : x ≤ y) : hcw x y = hc (qs y x) := by rw [hcw_comm, hcw_ge h]
/-- By how many times the lesser heap the player who is next wins, with least. -/
def eucO (x y : Nat) : Option Nat := if 2 ≤ x / y ∧ hcw (x - (x / y - 1) * y) y = false then some (x / y - 1) else if hcw (x - x / y * y) y = false then some (x / y) else none
theorem mod_form (x y : Nat) : x - x / y * y = x % y := by
  have := Nat.div_add_mod x y
  rw [Nat.mul_comm] at this; omega
theorem mod_form1 {x y : Nat} (h : 1 ≤ x / y) : x - (x / y - 1) * y = y + x % y := by
  have h1 := Nat.div_add_mod x y
  obtain ⟨q, hq⟩ : ∃ q, x / y = q + 1 := ⟨x / y - 1, by omega⟩
  rw [hq] at h1 ⊢
  rw [Nat.add_sub_cancel]
  have : y * (q + 1) = q * y + y := by rw [Nat.mul_comm, Nat.succ_mul]
  omega
theorem hcw_less {x y : Nat} (hy : 0 < y) : ∀ j, j + 2 ≤ x / y → hcw (x - j * y) y = true := fun j hj => by
  have h1 : (j + 2) * y ≤ x := by
    have := Nat.div_mul_le_self x y
    exact Nat.le_trans (Nat.mul_le_mul_right y hj) this
  rw [Nat.add_mul] at h1
  rw [hcw_ge (by omega)]
  exact hc_big hy (by omega)
theorem hcw_q {x y : Nat} (hy : 0 < y) : hcw (x % y) y = hc (qs y (x % y)) := hcw_le (Nat.le_of_lt (Nat.mod_lt _ hy))
theorem hcw_q1 {x y : Nat} (hy : 0 < y) : hcw (y + x % y) y = if x % y = 0 then true else !hc (qs y (x % y)) := by
  have hm := Nat.mod_lt x hy
  rw [hcw_ge (by omega)]
  by_cases e : x % y = 0
  · rw [if_pos e, e, Nat.add_zero]; exact hc_same hy
  · rw [if_neg e, hc_step (by omega) (by omega), Nat.add_sub_cancel_left]
theorem eucO_some {x y k : Nat} (hy : 0 < y) (hx : y ≤ x) (h : eucO x y = some k) : 1 ≤ k ∧ k ≤ x / y ∧ hcw (x - k * y) y = false ∧ ∀ j, 1 ≤ j → j < k → hcw (x - j * y) y = true := by
  have hq : 1 ≤ x / y := (Nat.le_div_iff_mul_le hy).2 (by omega)
  unfold eucO at h
  split at h
  · rename_i g
    obtain rfl : x / y - 1 = k := by simpa using h
    exact ⟨by omega, by omega, g.2, fun j h1 h2 => hcw_less hy j (by omega)⟩
  · rename_i g
    split at h
    · rename_i g2
      obtain rfl : x / y = k := by simpa using h
      refine ⟨hq, Nat.le_refl _, g2, fun j h1 h2 => ?_⟩
      by_cases e : j + 2 ≤ x / y
      · exact hcw_less hy j e
      · obtain rfl : j = x / y - 1 := by omega
        have : ¬ (2 ≤ x / y ∧ hcw (x - (x / y - 1) * y) y = false) := g
        cases hh : hcw (x - (x / y - 1) * y) y
        · exact absurd ⟨by omega, hh⟩ this
        · rfl
    · cases h
theorem eucO_none {x y : Nat} (hy : 0 < y) (h : eucO x y = none) : ∀ j, 1 ≤ j → j ≤ x / y → hcw (x - j * y) y = true := by
  intro j h1 h2
  unfold eucO at h
  split at h
  · cases h
  · rename_i g
    split at h
    · cases h
    · rename_i g2
      by_cases e : j + 2 ≤ x / y
      · exact hcw_less hy j e
      · rcases (show j = x / y ∨ j = x / y - 1 ∧ 2 ≤ x / y by omega) with rfl | ⟨rfl, e2⟩
        · simpa using g2
        · cases hh : hcw (x - (x / y - 1) * y) y
          · exact absurd ⟨e2, hh⟩ g
          · rfl
/-- The one who is next wins exactly if some multiple leaves no win. -/
theorem eucO_iff {x y : Nat} (hy : 0 < y) (hx : y ≤ x) : (eucO x y).isSome = hc (qs x y) := by
  have hq : 1 ≤ x / y := (Nat.le_div_iff_mul_le hy).2 (by omega)
  unfold eucO
  rw [mod_form, mod_form1 hq, hcw_q hy, hcw_q1 hy]
  by_cases e2 : 2 * y ≤ x
  · rw [hc_big hy e2]
    have := div_two hy e2
    by_cases e : x % y = 0
    · rw [e, qs_zero]; simp [hc]
    · cases g : hc (qs y (x % y)) <;> simp [e, this]
  · by_cases e1 : x = y
    · subst e1
      rw [hc_same hy, Nat.mod_self, qs_zero]
      simp [hc]
    · obtain ⟨e3, e4⟩ := div_one (x := x) (y := y) hy hx (by omega)
      rw [hc_step (x := x) (y := y) (by omega) (by omega), e3, e4]
      cases g : hc (qs y (x - y)) <;> simp
end Go.Proofs.Ytdafpjapepfniaa
