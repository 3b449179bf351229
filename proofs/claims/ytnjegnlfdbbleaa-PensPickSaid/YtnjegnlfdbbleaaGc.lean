/- Layer 1, plain geometry: Pick's theorem. -/
import Derived.Test.YtnjegnlfdbbleaaGb
namespace Go.Proofs.Ytnjegnlfdbbleaa

/-- The sum over all points with both numbers from -M to M. -/
def boxS (M : Nat) (f : Int × Int → Int) : Int := sumI (fun i => sumI (fun j => f ((i : Int) - M, (j : Int) - M)) (2 * M + 1)) (2 * M + 1)
theorem sumI_plus' (f g : Nat → Int) (n : Nat) : sumI (fun i => f i + g i) n = sumI f n + sumI g n := by
  induction n with
  | zero => rfl
  | succ n ih => simp only [sumI, ih]; omega
theorem sumI_comm (f : Nat → Nat → Int) (a b : Nat) : sumI (fun i => sumI (fun j => f i j) b) a = sumI (fun j => sumI (fun i => f i j) a) b := by
  induction a with
  | zero => exact (sumI_zeros _ _ (fun i _ => rfl)).symm
  | succ a ih => rw [sumI, ih, ← sumI_plus']; rfl
theorem sumI_const (c : Int) (n : Nat) : sumI (fun _ => c) n = c * n := by
  induction n with
  | zero => simp [sumI]
  | succ n ih => rw [sumI, ih, show ((n + 1 : Nat) : Int) = (n : Int) + 1 by omega, Int.mul_add]; omega
theorem boxS_congr {M : Nat} {f g : Int × Int → Int} (h : ∀ q, f q = g q) : boxS M f = boxS M g := by
  have : f = g := funext h
  rw [this]
theorem boxS_add (M : Nat) (f g : Int × Int → Int) : boxS M (fun q => f q + g q) = boxS M f + boxS M g := by
  unfold boxS
  rw [← sumI_plus']
  exact sumI_congr (fun i _ => sumI_plus' _ _ _)
theorem boxS_mul (M : Nat) (c : Int) (f : Int × Int → Int) : boxS M (fun q => c * f q) = c * boxS M f := by
  unfold boxS
  rw [← sumI_mul]
  exact sumI_congr (fun i _ => sumI_mul _ _ _)
theorem boxS_zero (M : Nat) : boxS M (fun _ => 0) = 0 := by
  unfold boxS
  exact sumI_zeros _ _ (fun i _ => sumI_zeros _ _ (fun j _ => rfl))
theorem boxS_sum (M : Nat) (f : Nat → Int × Int → Int) (n : Nat) : boxS M (fun q => sumI (fun i => f i q) n) = sumI (fun i => boxS M (f i)) n := by
  induction n with
  | zero => exact boxS_zero M
  | succ n ih => rw [sumI, ← ih, ← boxS_add]; rfl
theorem boxS_rows (M : Nat) (f : Int × Int → Int) : boxS M f = sumI (fun j => sumI (fun i => f ((i : Int) - M, (j : Int) - M)) (2 * M + 1)) (2 * M + 1) := sumI_comm _ _ _
/-- A window of a sum. -/
theorem sumI_win (G : Nat → Int) (s h N : Nat) (hN : s + h ≤ N) (H : Nat → Int) (h0 : ∀ j, j < N → (j < s ∨ s + h ≤ j) → H j = 0) (h1 : ∀ k, k < h → H (s + k) = G k) : sumI H N = sumI G h := by
  obtain ⟨r, rfl⟩ : ∃ r, N = s + h + r := ⟨N - (s + h), by omega⟩
  rw [sumI_plus, sumI_plus, sumI_zeros H s (fun i hi => h0 i (by omega) (.inl hi)), sumI_zeros (fun i => H (s + h + i)) r (fun i hi => h0 _ (by omega) (.inr (by omega))), sumI_congr h1]
  omega
theorem sumI_below (c N : Nat) (hc : c ≤ N) (H : Nat → Int) (h0 : ∀ i, i < N → H i = if i < c then 1 else 0) : sumI H N = c := by
  rw [sumI_win (fun _ => 1) 0 c N (by omega) H (fun j hj hh => by rw [h0 j hj, if_neg (by omega)]) (fun k hk => by rw [h0 _ (by omega), if_pos (by omega)]), sumI_const]
  omega
theorem sumI_one {H : Nat → Int} {N k : Nat} (hk : k < N) (h : ∀ i, i < N → H i = if i = k then 1 else 0) : sumI H N = 1 := by
  rw [sumI_only hk (fun i hi hne => by rw [h i hi, if_neg hne]), h k hk, if_pos rfl]
/-- How many of 0, .., g m - 1 are multiples of m. -/
theorem mult_count (m : Nat) (hm : 0 < m) (g : Nat) : sumI (fun k => if m ∣ k then 1 else 0) (g * m) = g := by
  induction g with
  | zero => simp [sumI]
  | succ g ih =>
    rw [Nat.succ_mul, sumI_plus, ih]
    have : sumI (fun i => if m ∣ g * m + i then (1 : Int) else 0) m = 1 := by
      refine sumI_one hm (fun i hi => ?_)
      have : m ∣ g * m + i ↔ i = 0 := by
        rw [Nat.dvd_add_right (Nat.dvd_mul_left m g)]
        exact ⟨fun h => Nat.eq_zero_of_dvd_of_lt h hi, fun h => h ▸ Nat.dvd_zero m⟩
      exact ite_iff this _ _
    rw [this]
    omega
theorem gcd_count (h : Nat) (hh : 0 < h) (e : Int) : sumI (fun k => if (h : Int) ∣ e * k then 1 else 0) h = (Nat.gcd e.natAbs h : Int) := by
  have hg : 0 < Nat.gcd e.natAbs h := Nat.gcd_pos_of_pos_right _ hh
  obtain ⟨m, hm⟩ := Nat.gcd_dvd_right e.natAbs h
  obtain ⟨t, ht⟩ := Nat.gcd_dvd_left e.natAbs h
  have hm0 : 0 < m := by
    rcases Nat.eq_zero_or_pos m with h0 | h0
    · rw [h0, Nat.mul_zero] at hm; omega
    · exact h0
  have hcop : Nat.Coprime m t := by
    have := Nat.coprime_div_gcd_div_gcd hg
    rw [Nat.div_eq_of_eq_mul_right hg ht, Nat.div_eq_of_eq_mul_right hg hm] at this
    exact this.symm
  have key : ∀ k : Nat, (h : Int) ∣ e * k ↔ m ∣ k := by
    intro k
    rw [Int.ofNat_dvd_left, Int.natAbs_mul, Int.natAbs_natCast]
    constructor
    · intro hd
      have h1 : Nat.gcd e.natAbs h * m ∣ Nat.gcd e.natAbs h * (t * k) := by rw [← Nat.mul_assoc, ← ht, ← hm]; exact hd
      exact hcop.dvd_of_dvd_mul_left (Nat.dvd_of_mul_dvd_mul_left hg h1)
    · rintro ⟨s, rfl⟩
      refine ⟨t * s, ?_⟩
      calc e.natAbs * (m * s) = (Nat.gcd e.natAbs h * t) * (m * s) := by rw [← ht]
        _ = (Nat.gcd e.natAbs h * m) * (t * s) := by simp only [Nat.mul_assoc, Nat.mul_left_comm]
        _ = h * (t * s) := by rw [← hm]
  rw [sumI_congr (fun k _ => ite_iff (key k) _ _)]
  have := mult_count m hm0 (Nat.gcd e.natAbs h)
  rw [← hm] at this
  exact this
theorem floor_neg (x h : Int) (hh : 0 < h) : x / h + (-x) / h = if h ∣ x then 0 else -1 := by
  by_cases hd : h ∣ x
  · rw [if_pos hd]
    obtain ⟨c, rfl⟩ := hd
    rw [Int.mul_ediv_cancel_left _ (by omega), show -(h * c) = h * (-c) by grind, Int.mul_ediv_cancel_left _ (by omega)]
    omega
  · rw [if_neg hd]
    have h1 := Int.mul_ediv_add_emod x h
    have h2 := Int.emod_nonneg x (show h ≠ 0 by omega)
    have h3 := Int.emod_lt_of_pos x hh
    have h4 : x % h ≠ 0 := fun e => hd (Int.dvd_of_emod_eq_zero e)
    have : (-x) / h = -(x / h) - 1 := by
      have e : -x = (h - x % h) + h * (-(x / h) - 1) := by grind
      rw [e, Int.add_mul_ediv_left _ _ (by omega), Int.ediv_eq_zero_of_lt (by omega) (by omega)]
      omega
    omega
/-- The sum of the rounded parts. -/
theorem floor_sum (h : Nat) (hh : 0 < h) (e : Int) : 2 * sumI (fun k => (e * k) / (h : Int)) h = e * h - e - h + (Nat.gcd e.natAbs h : Int) := by
  obtain ⟨m, rfl⟩ : ∃ m, h = m + 1 := ⟨h - 1, by omega⟩
  have c := gcd_count (m + 1) hh e
  rw [sumI_first] at c ⊢
  rw [if_pos ⟨0, by simp⟩] at c
  have z : e * ((0 : Nat) : Int) / ((m + 1 : Nat) : Int) = 0 := by simp
  rw [z]
  have r := sumI_rev (fun k => (e * ((k + 1 : Nat) : Int)) / ((m + 1 : Nat) : Int)) m
  have s : sumI (fun i => (e * ((i + 1 : Nat) : Int)) / ((m + 1 : Nat) : Int)) m + sumI (fun i => (e * ((m - 1 - i + 1 : Nat) : Int)) / ((m + 1 : Nat) : Int)) m = sumI (fun i => e - 1 + (if ((m + 1 : Nat) : Int) ∣ e * ((i + 1 : Nat) : Int) then 1 else 0)) m := by
    rw [← sumI_plus']
    refine sumI_congr (fun i hi => ?_)
    have e1 : e * ((m - 1 - i + 1 : Nat) : Int) = -(e * ((i + 1 : Nat) : Int)) + ((m + 1 : Nat) : Int) * e := by
      rw [show ((m - 1 - i + 1 : Nat) : Int) = ((m + 1 : Nat) : Int) - ((i + 1 : Nat) : Int) by omega]; grind
    rw [e1, Int.add_mul_ediv_left _ _ (by omega)]
    have := floor_neg (e * ((i + 1 : Nat) : Int)) ((m + 1 : Nat) : Int) (by omega)
    split at this <;> split <;> first | omega | contradiction
  rw [r, sumI_plus', sumI_const] at s
  have e2 : (e - 1) * (m : Int) = e * ((m + 1 : Nat) : Int) - e - ((m + 1 : Nat) : Int) + 1 := by
    rw [show ((m + 1 : Nat) : Int) = (m : Int) + 1 by omega]; grind
  omega
theorem steps_eq (a b : Int × Int) : stepsO (a, b) = (Nat.gcd (b.1 - a.1).natAbs (b.2 - a.2).natAbs : Int) := rfl
/-- The crossings of a side that leads up, over all points. -/
theorem side_up (M : Nat) {a b : Int × Int} (ha : Sm M a) (hb : Sm M b) (h : a.2 < b.2) :
    2 * boxS M (fun q => cE q a b) = (b.2 - a.2) * (a.1 + b.1) + (2 * M + 1) * (b.2 - a.2) - (b.1 - a.1) - stepsO (a, b) := by
  obtain ⟨H, hH⟩ : ∃ H : Nat, (H : Int) = b.2 - a.2 := ⟨(b.2 - a.2).toNat, by omega⟩
  obtain ⟨s, hs⟩ : ∃ s : Nat, (s : Int) = a.2 + M := ⟨(a.2 + M).toNat, by unfold Sm at ha; omega⟩
  unfold Sm at ha hb
  have hH0 : 0 < H := by omega
  rw [boxS_rows]
  rw [sumI_win (fun k => a.1 + M - ((a.1 - b.1) * (k : Int)) / (H : Int)) s H (2 * M + 1) (by omega) _ (fun j hj hh => ?_) (fun k hk => ?_)]
  · have e : ∀ k, a.1 + (M : Int) - ((a.1 - b.1) * (k : Int)) / (H : Int) = (a.1 + M) + (-1) * (((a.1 - b.1) * (k : Int)) / (H : Int)) := fun k => by omega
    rw [sumI_congr (fun k _ => e k), sumI_plus', sumI_const, sumI_mul]
    have f := floor_sum H hH0 (a.1 - b.1)
    have g : (Nat.gcd (a.1 - b.1).natAbs H : Int) = stepsO (a, b) := by
      rw [steps_eq, show (a.1 - b.1).natAbs = (b.1 - a.1).natAbs by omega, show H = (b.2 - a.2).natAbs by omega]
    rw [g] at f
    have m1 : (a.1 - b.1) * (H : Int) = (a.1 - b.1) * (b.2 - a.2) := by rw [hH]
    have m2 : (a.1 + (M : Int)) * (H : Int) = (a.1 + M) * (b.2 - a.2) := by rw [hH]
    have m3 : (b.2 - a.2) * (a.1 + b.1) + (2 * (M : Int) + 1) * (b.2 - a.2) = 2 * ((a.1 + M) * (b.2 - a.2)) - (a.1 - b.1) * (b.2 - a.2) + (b.2 - a.2) := by grind
    omega
  · refine sumI_zeros _ _ (fun i _ => ?_)
    have : ∀ x : Int, cE (x, (j : Int) - M) a b = 0 := fun x => cE_flat (by
      show (j : Int) - M < a.2 ↔ (j : Int) - M < b.2
      omega)
    exact this _
  · -- row k: the points left of the side
    have hy : ((s + k : Nat) : Int) - M = a.2 + k := by omega
    have hk' : (k : Int) < b.2 - a.2 := by omega
    have d1 := Int.mul_ediv_add_emod ((a.1 - b.1) * (k : Int)) (H : Int)
    have d2 := Int.emod_nonneg ((a.1 - b.1) * (k : Int)) (show (H : Int) ≠ 0 by omega)
    have d3 := Int.emod_lt_of_pos ((a.1 - b.1) * (k : Int)) (show (0 : Int) < H by omega)
    generalize hF : ((a.1 - b.1) * (k : Int)) / (H : Int) = F at *
    -- bounds of F
    have b1 : a.1 + M - F ≤ 2 * M + 1 := by
      rcases Int.lt_or_le (a.1 + M - F) (2 * M + 2) with g | g
      · omega
      · exfalso
        have q1 : (H : Int) * F ≤ (H : Int) * (a.1 - M - 2) := Int.mul_le_mul_of_nonneg_left (by omega) (by omega)
        have q2 : (a.1 - b.1) * (k : Int) ≥ (a.1 - M) * (k : Int) := Int.mul_le_mul_of_nonneg_right (by omega) (by omega)
        have q3 : (a.1 - M) * (k : Int) ≥ (a.1 - M) * (H : Int) := Int.mul_le_mul_of_nonpos_left (by omega) (by omega)
        have q4 : (H : Int) * (a.1 - M - 2) = (a.1 - M) * (H : Int) - 2 * H := by grind
        omega
    have b2 : 0 ≤ a.1 + M - F := by
      rcases Int.lt_or_le (a.1 + M - F) 0 with g | g
      · exfalso
        have q1 : (H : Int) * (a.1 + M + 1) ≤ (H : Int) * F := Int.mul_le_mul_of_nonneg_left (by omega) (by omega)
        have q2 : (a.1 - b.1) * (k : Int) ≤ (a.1 + M) * (k : Int) := Int.mul_le_mul_of_nonneg_right (by omega) (by omega)
        have q3 : (a.1 + M) * (k : Int) ≤ (a.1 + M) * (H : Int) := Int.mul_le_mul_of_nonneg_left (by omega) (by omega)
        have q4 : (H : Int) * (a.1 + M + 1) = (a.1 + M) * (H : Int) + H := by grind
        omega
      · exact g
    obtain ⟨c, hc⟩ : ∃ c : Nat, (c : Int) = a.1 + M - F := ⟨(a.1 + M - F).toNat, by omega⟩
    rw [← hc]
    refine sumI_below c (2 * M + 1) (by omega) _ (fun i hi => ?_)
    show cE ((i : Int) - M, ((s + k : Nat) : Int) - M) a b = _
    rw [hy, cE_low (by show ¬ a.2 + (k : Int) < a.2; omega) (by show a.2 + (k : Int) < b.2; omega)]
    refine ite_iff ?_ _ _
    have e : crossI a b ((i : Int) - M, a.2 + (k : Int)) = (H : Int) * (a.1 + M - i) - (a.1 - b.1) * (k : Int) := by unfold crossI; rw [hH]; grind
    rw [e]
    constructor
    · intro hp
      rcases Nat.lt_or_ge i c with g | g
      · exact g
      · exfalso
        have q1 : (H : Int) * (a.1 + M - i) ≤ (H : Int) * F := Int.mul_le_mul_of_nonneg_left (by omega) (by omega)
        omega
    · intro hi
      have q1 : (H : Int) * (F + 1) ≤ (H : Int) * (a.1 + M - i) := Int.mul_le_mul_of_nonneg_left (by omega) (by omega)
      have q2 : (H : Int) * (F + 1) = (H : Int) * F + H := by grind
      omega
/-- The crossings of a side, over all points. -/
theorem side_all (M : Nat) {a b : Int × Int} (ha : Sm M a) (hb : Sm M b) (hne : a ≠ b) :
    2 * boxS M (fun q => cE q a b) = (b.2 - a.2) * (a.1 + b.1) + (2 * M + 1) * (b.2 - a.2) - (b.1 - a.1) + (2 * lowI a b - 1) * stepsO (a, b) := by
  rcases Int.lt_trichotomy a.2 b.2 with h | h | h
  · have l : lowI a b = 0 := if_neg (by unfold Low; omega)
    rw [side_up M ha hb h, l]; omega
  · have z : boxS M (fun q => cE q a b) = 0 := (boxS_congr (fun q => cE_flat (by rw [h]))).trans (boxS_zero M)
    have hx := pt_ne hne
    have g : stepsO (a, b) = ((b.1 - a.1).natAbs : Int) := by rw [steps_eq, h, Int.sub_self]; simp
    rw [z, g, h, Int.sub_self]
    by_cases hlt : a.1 < b.1
    · have l : lowI a b = 1 := if_pos (.inr ⟨h.symm, hlt⟩)
      rw [l]; omega
    · have l : lowI a b = 0 := if_neg (by unfold Low; omega)
      rw [l]; omega
  · have l : lowI a b = 1 := if_pos (.inl h)
    have e : boxS M (fun q => cE q a b) = (-1) * boxS M (fun q => cE q b a) := by
      rw [← boxS_mul]; exact boxS_congr (fun q => by rw [cE_swap q b a]; omega)
    have u := side_up M hb ha h
    rw [e, l, stepsO_swap b a]
    have m1 : (b.2 - a.2) * (a.1 + b.1) + (2 * (M : Int) + 1) * (b.2 - a.2) = -((a.2 - b.2) * (b.1 + a.1) + (2 * M + 1) * (a.2 - b.2)) := by grind
    omega
/-- Is a point on a side, and none of its ends? -/
def onI (a b q : Int × Int) : Int := if OnP a b q ∧ q ≠ a ∧ q ≠ b then 1 else 0
theorem onI_swap (a b q : Int × Int) : onI b a q = onI a b q := ite_iff (by rw [OnP_swap]; exact ⟨fun h => ⟨h.1, h.2.2, h.2.1⟩, fun h => ⟨h.1, h.2.2, h.2.1⟩⟩) _ _
theorem pt_iff (x y : Int) (a : Int × Int) : ((x, y) ≠ a) ↔ (x ≠ a.1 ∨ y ≠ a.2) := by
  rw [Ne, Prod.ext_iff]
  omega
theorem on_up (M : Nat) {a b : Int × Int} (ha : Sm M a) (hb : Sm M b) (h : a.2 < b.2) : boxS M (onI a b) = stepsO (a, b) - 1 := by
  obtain ⟨H, hH⟩ : ∃ H : Nat, (H : Int) = b.2 - a.2 := ⟨(b.2 - a.2).toNat, by omega⟩
  obtain ⟨s, hs⟩ : ∃ s : Nat, (s : Int) = a.2 + M := ⟨(a.2 + M).toNat, by unfold Sm at ha; omega⟩
  unfold Sm at ha hb
  have hH0 : 0 < H := by omega
  rw [boxS_rows]
  rw [sumI_win (fun k => if k = 0 then 0 else if (H : Int) ∣ (b.1 - a.1) * (k : Int) then 1 else 0) s H (2 * M + 1) (by omega) _ (fun j hj hh => ?_) (fun k hk => ?_)]
  · have c := gcd_count H hH0 (b.1 - a.1)
    have g : (Nat.gcd (b.1 - a.1).natAbs H : Int) = stepsO (a, b) := by
      rw [steps_eq, show H = (b.2 - a.2).natAbs by omega]
    rw [g] at c
    obtain ⟨m, rfl⟩ : ∃ m, H = m + 1 := ⟨H - 1, by omega⟩
    rw [sumI_first] at c ⊢
    rw [if_pos ⟨0, by simp⟩] at c
    rw [if_pos rfl, sumI_congr (g := fun i => if ((m + 1 : Nat) : Int) ∣ (b.1 - a.1) * ((i + 1 : Nat) : Int) then 1 else 0) (fun i _ => if_neg (by omega))]
    omega
  · refine sumI_zeros _ _ (fun i _ => ?_)
    refine if_neg (fun hn => ?_)
    obtain ⟨⟨h0, h1, h2⟩, h3, h4⟩ := hn
    have hy : (j : Int) - M = b.2 := by
      have : a.2 ≤ (j : Int) - M ∧ (j : Int) - M ≤ b.2 ∨ b.2 ≤ (j : Int) - M ∧ (j : Int) - M ≤ a.2 := h2
      omega
    rw [pt_iff] at h4
    have e : crossI a b ((i : Int) - M, (j : Int) - M) = (b.2 - a.2) * (b.1 - ((i : Int) - M)) := by rw [hy]; unfold crossI; grind
    rw [e] at h0
    rcases Int.mul_eq_zero.1 h0 with g | g <;> omega
  · have hy : ((s + k : Nat) : Int) - M = a.2 + k := by omega
    by_cases hk0 : k = 0
    · subst hk0
      rw [if_pos rfl]
      refine sumI_zeros _ _ (fun i _ => if_neg (fun hn => ?_))
      obtain ⟨⟨h0, h1, h2⟩, h3, h4⟩ := hn
      rw [hy, pt_iff] at h3
      rw [hy] at h0
      have e : crossI a b ((i : Int) - M, a.2 + ((0 : Nat) : Int)) = (b.2 - a.2) * (a.1 - ((i : Int) - M)) := by unfold crossI; grind
      rw [e] at h0
      rcases Int.mul_eq_zero.1 h0 with g | g <;> omega
    · rw [if_neg hk0]
      have ec : ∀ x : Int, crossI a b (x, a.2 + (k : Int)) = (b.1 - a.1) * (k : Int) - (H : Int) * (x - a.1) := fun x => by unfold crossI; rw [hH]; grind
      by_cases hd : (H : Int) ∣ (b.1 - a.1) * (k : Int)
      · rw [if_pos hd]
        obtain ⟨t, ht⟩ := hd
        have hB : Bet a b (a.1 + t, a.2 + (k : Int)) H k := ⟨by omega, by omega, by omega, by show (H : Int) * (a.1 + t - a.1) = (k : Int) * (b.1 - a.1); rw [show a.1 + t - a.1 = t by omega, ← ht, Int.mul_comm], by show (H : Int) * (a.2 + (k : Int) - a.2) = (k : Int) * (b.2 - a.2); rw [show a.2 + (k : Int) - a.2 = k by omega, ← hH, Int.mul_comm]⟩
        have hO := bet_on hB
        have hx : a.1 ≤ a.1 + t ∧ a.1 + t ≤ b.1 ∨ b.1 ≤ a.1 + t ∧ a.1 + t ≤ a.1 := hO.2.1
        refine sumI_one (k := (a.1 + t + M).toNat) (by omega) (fun i hi => ?_)
        show onI a b ((i : Int) - M, ((s + k : Nat) : Int) - M) = _
        rw [hy]
        refine ite_iff ?_ _ _
        constructor
        · intro hn
          have := hn.1.1
          rw [ec, ht, ← Int.mul_sub] at this
          rcases Int.mul_eq_zero.1 this with g | g <;> omega
        · intro hi
          have : (i : Int) - M = a.1 + t := by omega
          rw [this]
          exact ⟨hO, by rw [pt_iff]; omega, by rw [pt_iff]; omega⟩
      · rw [if_neg hd]
        refine sumI_zeros _ _ (fun i _ => if_neg (fun hn => hd ?_))
        rw [hy] at hn
        have := hn.1.1
        rw [ec] at this
        exact ⟨(i : Int) - M - a.1, by omega⟩
theorem on_level_count (M : Nat) {a b : Int × Int} (ha : Sm M a) (hb : Sm M b) (h : a.2 = b.2) (hlt : a.1 < b.1) : boxS M (onI a b) = stepsO (a, b) - 1 := by
  have g : stepsO (a, b) = b.1 - a.1 := by rw [steps_eq, h, Int.sub_self]; simp; omega
  rw [g]
  unfold Sm at ha hb
  have hon : ∀ x y : Int, (OnP a b (x, y) ∧ (x, y) ≠ a ∧ (x, y) ≠ b) ↔ (y = a.2 ∧ a.1 < x ∧ x < b.1) := by
    intro x y
    rw [pt_iff, pt_iff]
    constructor
    · rintro ⟨⟨_, h1, h2⟩, h3, h4⟩
      have h1' : a.1 ≤ x ∧ x ≤ b.1 ∨ b.1 ≤ x ∧ x ≤ a.1 := h1
      have h2' : a.2 ≤ y ∧ y ≤ b.2 ∨ b.2 ≤ y ∧ y ≤ a.2 := h2
      omega
    · rintro ⟨h1, h2, h3⟩
      refine ⟨⟨by unfold crossI; rw [h1, ← h]; grind, .inl ⟨by show a.1 ≤ x; omega, by show x ≤ b.1; omega⟩, .inl ⟨by show a.2 ≤ y; omega, by show y ≤ b.2; omega⟩⟩, by omega, by omega⟩
  rw [boxS_rows]
  have hz : ∀ x y : Int, ¬ (y = a.2 ∧ a.1 < x ∧ x < b.1) → onI a b (x, y) = 0 := fun x y h => if_neg (fun k => h ((hon x y).1 k))
  have ho : ∀ x y : Int, (y = a.2 ∧ a.1 < x ∧ x < b.1) → onI a b (x, y) = 1 := fun x y h => if_pos ((hon x y).2 h)
  have r0 : ∀ j, j < 2 * M + 1 → j ≠ (a.2 + M).toNat → sumI (fun i => onI a b ((i : Int) - M, (j : Int) - M)) (2 * M + 1) = 0 := fun j hj hne => sumI_zeros _ _ (fun i _ => hz _ _ (by omega))
  rw [sumI_only (k := (a.2 + M).toNat) (by omega) r0]
  rw [sumI_win (fun _ => 1) (a.1 + M + 1).toNat (b.1 - a.1 - 1).toNat (2 * M + 1) (by omega) _ (fun i hi hh => hz _ _ (by omega)) (fun k hk => ho _ _ (by omega)), sumI_const]
  omega
theorem on_count (M : Nat) {a b : Int × Int} (ha : Sm M a) (hb : Sm M b) (hne : a ≠ b) : boxS M (onI a b) = stepsO (a, b) - 1 := by
  rcases Int.lt_trichotomy a.2 b.2 with h | h | h
  · exact on_up M ha hb h
  · have hx := pt_ne hne
    rcases Int.lt_trichotomy a.1 b.1 with g | g | g
    · exact on_level_count M ha hb h g
    · omega
    · rw [← stepsO_swap, ← on_level_count M hb ha h.symm g]
      exact boxS_congr (fun q => (onI_swap a b q).symm)
  · rw [← stepsO_swap, ← on_up M hb ha h]
    exact boxS_congr (fun q => (onI_swap a b q).symm)
instance (n p q) : Decidable (OffP n p q) := by unfold OffP; infer_instance
/-- Is a point inside? -/
def insI (n : Nat) (p : Nat → Int × Int) (q : Int × Int) : Int := if OffP n p q ∧ cP n p q ≠ 0 then 1 else 0
theorem cP_split {n : Nat} {p : Nat → Int × Int} (h : Simp n p) (q : Int × Int) :
    cP n p q = (1 + 2 * kap n p) * insI n p q + sumI (fun i => cP n p (p i) * (if q = p i then 1 else 0)) n + sumI (fun i => (kap n p + lowI (p i) (p (suc n i))) * onI (p i) (p (suc n i)) q) n := by
  have self : ∀ i, OnP (p i) (p (suc n i)) (p i) := fun i => ⟨cross_ba _ _, by omega, by omega⟩
  by_cases ho : OffP n p q
  · have e1 : sumI (fun i => cP n p (p i) * (if q = p i then 1 else 0)) n = 0 := sumI_zeros _ _ (fun i hi => by
      rw [if_neg (fun e => ho i hi (by rw [e]; exact self i)), Int.mul_zero])
    have e2 : sumI (fun i => (kap n p + lowI (p i) (p (suc n i))) * onI (p i) (p (suc n i)) q) n = 0 := sumI_zeros _ _ (fun i hi => by
      have : onI (p i) (p (suc n i)) q = 0 := if_neg (fun k => ho i hi k.1)
      rw [this, Int.mul_zero])
    rw [e1, e2]
    have j := h.jordan ho
    have k := h.kap_or
    unfold insI
    by_cases hc : cP n p q = 0
    · rw [if_neg (fun k => k.2 hc), hc]; omega
    · rw [if_pos ⟨ho, hc⟩]; omega
  · have e0 : insI n p q = 0 := if_neg (fun k => ho k.1)
    rw [e0, Int.mul_zero]
    by_cases hv : ∃ j, j < n ∧ q = p j
    · obtain ⟨j, hj, rfl⟩ := hv
      have e1 : sumI (fun i => cP n p (p i) * (if p j = p i then 1 else 0)) n = cP n p (p j) := by
        rw [sumI_only hj (fun i hi hne => by rw [if_neg (fun e => hne (h.inj hj hi e).symm), Int.mul_zero]), if_pos rfl, Int.mul_one]
      have e2 : sumI (fun i => (kap n p + lowI (p i) (p (suc n i))) * onI (p i) (p (suc n i)) (p j)) n = 0 := sumI_zeros _ _ (fun i hi => by
        have : onI (p i) (p (suc n i)) (p j) = 0 := if_neg (fun k => h.post_off hi hj (fun e => k.2.1 (by rw [e])) (fun e => k.2.2 (by rw [e])) k.1)
        rw [this, Int.mul_zero])
      rw [e1, e2]; omega
    · have ⟨i, hi, hon⟩ : ∃ i, i < n ∧ OnP (p i) (p (suc n i)) q := by
        rcases Classical.em (∃ i, i < n ∧ OnP (p i) (p (suc n i)) q) with hx | hx
        · exact hx
        · exact absurd (fun i hi hn => hx ⟨i, hi, hn⟩) ho
      have h1 : q ≠ p i := fun e => hv ⟨i, hi, e⟩
      have h2 : q ≠ p (suc n i) := fun e => hv ⟨_, suc_lt hi, e⟩
      have e1 : sumI (fun i => cP n p (p i) * (if q = p i then 1 else 0)) n = 0 := sumI_zeros _ _ (fun k hk => by
        rw [if_neg (fun e => hv ⟨k, hk, e⟩), Int.mul_zero])
      have e2 : sumI (fun i => (kap n p + lowI (p i) (p (suc n i))) * onI (p i) (p (suc n i)) q) n = kap n p + lowI (p i) (p (suc n i)) := by
        have one : onI (p i) (p (suc n i)) q = 1 := if_pos ⟨hon, h1, h2⟩
        rw [sumI_only hi (fun k hk hne => by
          have : onI (p k) (p (suc n k)) q = 0 := if_neg (fun g => by
            rcases h.two_sides hi hk hne hon g.1 with ⟨_, e⟩ | ⟨_, e⟩
            · exact hv ⟨k, hk, e⟩
            · exact hv ⟨i, hi, e⟩)
          rw [this, Int.mul_zero]), one, Int.mul_one]
      rw [e1, e2, h.at_side hi hon h1 h2]; omega
theorem box_point (M : Nat) {a : Int × Int} (ha : Sm M a) : boxS M (fun q => if q = a then 1 else 0) = 1 := by
  unfold Sm at ha
  have e : ∀ x y : Int, ((x, y) = a) ↔ (x = a.1 ∧ y = a.2) := fun x y => Prod.ext_iff
  unfold boxS
  rw [sumI_only (k := (a.1 + M).toNat) (by omega) (fun i hi hne => sumI_zeros _ _ (fun j hj => if_neg (by rw [e]; omega)))]
  exact sumI_one (k := (a.2 + M).toNat) (by omega) (fun j hj => ite_iff (by rw [e]; omega) _ _)
theorem sum_round2 (n : Nat) (p : Nat → Int × Int) (f : Int × Int → Int) : sumI (fun i => f (p (suc n i)) - f (p i)) n = 0 := by
  have e := sumI_round (fun i => f (p i)) n
  have : sumI (fun i => f (p (suc n i)) - f (p i)) n = sumI (fun i => f (p ((i + 1) % n))) n - sumI (fun i => f (p i)) n := sumI_sub _ _ n
  omega
/-- Pick's theorem: s times the area is twice the number of points inside, and the number on the border, less 2. -/
theorem Simp.count {n : Nat} {p : Nat → Int × Int} (h : Simp n p) (M : Nat) (hs : ∀ i, i < n → Sm M (p i)) :
    (1 + 2 * kap n p) * signedI n p = 2 * boxS M (insI n p) + borderI n p - 2 := by
  -- all crossings, side by side
  have t1 : 2 * boxS M (cP n p) = signedI n p + sumI (fun i => (2 * lowI (p i) (p (suc n i)) - 1) * stepsO (sideAt n p i)) n := by
    have e0 : boxS M (cP n p) = sumI (fun i => boxS M (fun q => cE q (p i) (p (suc n i)))) n := boxS_sum M (fun i q => cE q (p i) (p (suc n i))) n
    rw [e0, ← sumI_mul]
    have e1 : ∀ i, i < n → 2 * boxS M (fun q => cE q (p i) (p (suc n i))) = crossO (sideAt n p i) + ((fun a : Int × Int => a.1 * a.2 + (2 * M + 1) * a.2 - a.1) (p (suc n i)) - (fun a : Int × Int => a.1 * a.2 + (2 * M + 1) * a.2 - a.1) (p i)) + (2 * lowI (p i) (p (suc n i)) - 1) * stepsO (sideAt n p i) := fun i hi => by
      rw [side_all M (hs i hi) (hs _ (suc_lt hi)) (h.ne i hi)]
      have : crossO (sideAt n p i) = (p i).1 * (p (suc n i)).2 - (p i).2 * (p (suc n i)).1 := by unfold crossO sideAt crossI suc; grind
      have es : stepsO (sideAt n p i) = stepsO (p i, p (suc n i)) := rfl
      rw [this, es]
      grind
    rw [sumI_congr e1, sumI_plus', sumI_plus', sum_round2 n p (fun a : Int × Int => a.1 * a.2 + (2 * M + 1) * a.2 - a.1)]
    unfold signedI
    omega
  -- all points, one by one
  have t2 : boxS M (cP n p) = (1 + 2 * kap n p) * boxS M (insI n p) + sumI (fun i => cP n p (p i)) n + sumI (fun i => (kap n p + lowI (p i) (p (suc n i))) * (stepsO (sideAt n p i) - 1)) n := by
    rw [boxS_congr (cP_split h), boxS_add, boxS_add, boxS_mul, boxS_sum M (fun i q => cP n p (p i) * (if q = p i then 1 else 0)) n, boxS_sum M (fun i q => (kap n p + lowI (p i) (p (suc n i))) * onI (p i) (p (suc n i)) q) n]
    have e1 : ∀ i, i < n → boxS M (fun q => cP n p (p i) * (if q = p i then 1 else 0)) = cP n p (p i) := fun i hi => by
      rw [boxS_mul, box_point M (hs i hi), Int.mul_one]
    have e2 : ∀ i, i < n → boxS M (fun q => (kap n p + lowI (p i) (p (suc n i))) * onI (p i) (p (suc n i)) q) = (kap n p + lowI (p i) (p (suc n i))) * (stepsO (sideAt n p i) - 1) := fun i hi => by
      rw [boxS_mul]
      have := on_count M (hs i hi) (hs _ (suc_lt hi)) (h.ne i hi)
      have e : boxS M (fun q => onI (p i) (p (suc n i)) q) = stepsO (p i, p (suc n i)) - 1 := this
      rw [e]; rfl
    rw [sumI_congr e1, sumI_congr e2]
  have t3 := h.turn
  unfold turnW at t3
  have t4 : sumI (fun i => (kap n p + lowI (p i) (p (suc n i))) * (stepsO (sideAt n p i) - 1)) n = kap n p * borderI n p - kap n p * n + sumI (fun i => lowI (p i) (p (suc n i)) * stepsO (sideAt n p i)) n - sumI (fun i => lowI (p i) (p (suc n i))) n := by
    have e : ∀ i, (kap n p + lowI (p i) (p (suc n i))) * (stepsO (sideAt n p i) - 1) = (kap n p * stepsO (sideAt n p i) - kap n p) + (lowI (p i) (p (suc n i)) * stepsO (sideAt n p i) - lowI (p i) (p (suc n i))) := fun i => by grind
    rw [sumI_congr (fun i _ => e i), sumI_plus', sumI_sub, sumI_sub, sumI_mul, sumI_const]
    unfold borderI
    omega
  have t5 : sumI (fun i => (2 * lowI (p i) (p (suc n i)) - 1) * stepsO (sideAt n p i)) n = 2 * sumI (fun i => lowI (p i) (p (suc n i)) * stepsO (sideAt n p i)) n - borderI n p := by
    have e : ∀ i, (2 * lowI (p i) (p (suc n i)) - 1) * stepsO (sideAt n p i) = 2 * (lowI (p i) (p (suc n i)) * stepsO (sideAt n p i)) - stepsO (sideAt n p i) := fun i => by grind
    rw [sumI_congr (fun i _ => e i), sumI_sub, sumI_mul]
    rfl
  rcases h.kap_or with hk | hk
  · rw [hk] at t2 t3 t4 ⊢
    simp only [Int.mul_zero, Int.zero_mul, Int.add_zero, Int.one_mul] at t2 t3 t4 ⊢
    omega
  · rw [hk] at t2 t3 t4 ⊢
    omega
theorem sumI_ge (f : Nat → Int) (c : Int) (n : Nat) (h : ∀ i, i < n → c ≤ f i) : c * n ≤ sumI f n := by
  induction n with
  | zero => simp [sumI]
  | succ n ih =>
    have h1 := ih (fun i hi => h i (by omega))
    have h2 := h n (by omega)
    rw [sumI, show ((n + 1 : Nat) : Int) = (n : Int) + 1 by omega, Int.mul_add]
    omega
theorem steps_pos {a b : Int × Int} (h : a ≠ b) : 1 ≤ stepsO (a, b) := by
  have := pt_ne h
  rw [steps_eq]
  have : 0 < Nat.gcd (b.1 - a.1).natAbs (b.2 - a.2).natAbs := by
    rcases this with h | h
    · exact Nat.gcd_pos_of_pos_left _ (by omega)
    · exact Nat.gcd_pos_of_pos_right _ (by omega)
  omega
theorem Simp.border_ge {n : Nat} {p : Nat → Int × Int} (h : Simp n p) : 3 ≤ borderI n p := by
  have h3 := h.h3
  have := sumI_ge (fun i => stepsO (sideAt n p i)) 1 n (fun i hi => steps_pos (h.ne i hi))
  unfold borderI
  omega
theorem boxS_nonneg (M : Nat) (f : Int × Int → Int) (h : ∀ q, 0 ≤ f q) : 0 ≤ boxS M f := by
  have := sumI_ge (fun i => sumI (fun j => f ((i : Int) - M, (j : Int) - M)) (2 * M + 1)) 0 (2 * M + 1) (fun i _ => by
    have := sumI_ge (fun j => f ((i : Int) - M, (j : Int) - M)) 0 (2 * M + 1) (fun j _ => h _)
    omega)
  unfold boxS
  omega
theorem insI_or (n : Nat) (p : Nat → Int × Int) (q : Int × Int) : insI n p q = 0 ∨ insI n p q = 1 := by
  unfold insI; split <;> omega
/-- A pen's area. -/
theorem Simp.area {n : Nat} {p : Nat → Int × Int} (h : Simp n p) (M : Nat) (hs : ∀ i, i < n → Sm M (p i)) : 0 ≤ boxS M (insI n p) ∧ areaI n p = 2 * boxS M (insI n p) + borderI n p - 2 := by
  have h1 := h.count M hs
  have hB := h.border_ge
  have hI := boxS_nonneg M (insI n p) (fun q => by have := insI_or n p q; omega)
  refine ⟨hI, ?_⟩
  unfold areaI
  rcases h.kap_or with hk | hk <;> rw [hk] at h1 <;> omega
/-- The direction of a pen is that of its area. -/
theorem Simp.sign {n : Nat} {p : Nat → Int × Int} (h : Simp n p) : (0 < signedI n p ∧ kap n p = 0) ∨ (signedI n p < 0 ∧ kap n p = -1) := by
  obtain ⟨M, hM⟩ : ∃ M : Nat, ∀ i, i < n → Sm M (p i) := by
    have : ∀ N, ∃ M : Nat, ∀ i, i < N → Sm M (p i) := by
      intro N
      induction N with
      | zero => exact ⟨0, fun i hi => by omega⟩
      | succ N ih =>
        obtain ⟨M, hM⟩ := ih
        refine ⟨M + (p N).1.natAbs + (p N).2.natAbs, fun i hi => ?_⟩
        by_cases hiN : i = N
        · subst hiN; unfold Sm; omega
        · have := hM i (by omega); unfold Sm at *; omega
    exact this n
  have h1 := h.count M hM
  have hB := h.border_ge
  have hI := boxS_nonneg M (insI n p) (fun q => by have := insI_or n p q; omega)
  rcases h.kap_or with hk | hk <;> rw [hk] at h1 <;> omega
end Go.Proofs.Ytnjegnlfdbbleaa
