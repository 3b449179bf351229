/- Layer 1, plain arithmetic: lists of posts that have the same numbers (begun elsewhere, turned around, sheared), and grown ones. -/
import Derived.Test.YtnjegnlfdbbleaaPc
namespace Go.Proofs.Ytnjegnlfdbbleaa

/-- What a pen's numbers hang on: the same of both lists of posts. -/
structure Like (n : Nat) (p q : Nat → Int × Int) : Prop where
  pen : PenP n p ↔ PenP n q
  area : areaI n p = areaI n q
  border : borderI n p = borderI n q
  conv : convB n p = convB n q
theorem Like.trans {n : Nat} {p q r : Nat → Int × Int} (h : Like n p q) (k : Like n q r) : Like n p r := ⟨h.pen.trans k.pen, h.area.trans k.area, h.border.trans k.border, h.conv.trans k.conv⟩
theorem Like.symm {n : Nat} {p q : Nat → Int × Int} (h : Like n p q) : Like n q p := ⟨h.pen.symm, h.area.symm, h.border.symm, h.conv.symm⟩

/-- The next post's place. -/
def suc (n i : Nat) : Nat := (i + 1) % n
theorem suc_lt {n i : Nat} (h : i < n) : suc n i < n := Nat.mod_lt _ (by omega)
theorem suc_eq {n i : Nat} (h : i < n) : suc n i = if i + 1 = n then 0 else i + 1 := by
  unfold suc
  split
  · next e => rw [e, Nat.mod_self]
  · exact Nat.mod_eq_of_lt (by omega)
theorem suc2 {n i : Nat} : suc n (suc n i) = (i + 2) % n := by unfold suc; rw [Nat.mod_add_mod]
theorem suc_inj {n i j : Nat} (hi : i < n) (hj : j < n) (h : suc n i = suc n j) : i = j := by
  rw [suc_eq hi, suc_eq hj] at h
  split at h <;> split at h <;> omega
theorem suc_sur {n j : Nat} (hj : j < n) : ∃ i, i < n ∧ suc n i = j := by
  by_cases h : j = 0
  · exact ⟨n - 1, by omega, by rw [suc_eq (by omega), if_pos (by omega), h]⟩
  · exact ⟨j - 1, by omega, by rw [suc_eq (by omega), if_neg (by omega)]; omega⟩

theorem OnP_swap {a b p : Int × Int} : OnP b a p ↔ OnP a b p := by
  have e : crossI b a p = - crossI a b p := by unfold crossI; grind
  unfold OnP
  rw [e]
  omega
theorem cross_swap (a b c : Int × Int) : crossI b a c = - crossI a b c := by unfold crossI; grind
theorem cross_rev (a b c : Int × Int) : crossI c b a = - crossI a b c := by unfold crossI; grind
theorem Opp_neg {x y : Int} : Opp (-x) (-y) ↔ Opp x y := by unfold Opp; omega
theorem Opp_comm {x y : Int} : Opp x y ↔ Opp y x := by unfold Opp; omega
theorem MeetP_comm {a b c d : Int × Int} : MeetP a b c d ↔ MeetP c d a b := by
  unfold MeetP
  constructor
  · rintro (h | h | h | h | ⟨h, k⟩)
    · exact .inr (.inr (.inl h))
    · exact .inr (.inr (.inr (.inl h)))
    · exact .inl h
    · exact .inr (.inl h)
    · exact .inr (.inr (.inr (.inr ⟨k, h⟩)))
  · rintro (h | h | h | h | ⟨h, k⟩)
    · exact .inr (.inr (.inl h))
    · exact .inr (.inr (.inr (.inl h)))
    · exact .inl h
    · exact .inr (.inl h)
    · exact .inr (.inr (.inr (.inr ⟨k, h⟩)))
theorem MeetP_swap1 {a b c d : Int × Int} : MeetP b a c d ↔ MeetP a b c d := by
  unfold MeetP
  rw [OnP_swap (a := a) (b := b) (p := c), OnP_swap (a := a) (b := b) (p := d), cross_swap a b c, cross_swap a b d, Opp_neg, Opp_comm (x := crossI c d b)]
  constructor
  · rintro (h | h | h | h | h)
    · exact .inl h
    · exact .inr (.inl h)
    · exact .inr (.inr (.inr (.inl h)))
    · exact .inr (.inr (.inl h))
    · exact .inr (.inr (.inr (.inr h)))
  · rintro (h | h | h | h | h)
    · exact .inl h
    · exact .inr (.inl h)
    · exact .inr (.inr (.inr (.inl h)))
    · exact .inr (.inr (.inl h))
    · exact .inr (.inr (.inr (.inr h)))
theorem MeetP_swap {a b c d : Int × Int} : MeetP b a d c ↔ MeetP a b c d := by
  rw [MeetP_swap1, MeetP_comm, MeetP_swap1, MeetP_comm]

/-- A pen, said of all pairs of sides. -/
def PenS (n : Nat) (p : Nat → Int × Int) : Prop :=
  (3 ≤ n ∧ n ≤ 10) ∧ (∀ i, i < n → Sm 50 (p i)) ∧ (∀ i, i < n → p i ≠ p (suc n i)) ∧ (∀ i, i < n → ¬ OnP (p i) (p (suc n i)) (p (suc n (suc n i))) ∧ ¬ OnP (p (suc n i)) (p (suc n (suc n i))) (p i)) ∧
  ∀ i k, i < n → k < n → k ≠ i → k ≠ suc n i → i ≠ suc n k → ¬ MeetP (p i) (p (suc n i)) (p k) (p (suc n k))
theorem pen_sym {n : Nat} {p : Nat → Int × Int} : PenP n p ↔ PenS n p := by
  constructor
  · rintro ⟨h3, h10, h1, h2⟩
    refine ⟨⟨h3, h10⟩, fun i hi => (h1 i hi).1, fun i hi => (h1 i hi).2, fun i hi => ?_, fun i k hi hk h4 h5 h6 => ?_⟩
    · rw [suc2]; exact (h2 i hi).1
    · rcases Nat.lt_or_ge i k with h | h
      · refine (h2 i hi).2 k hk ?_ (fun e => h6 e.symm)
        rw [suc_eq hi] at h5
        split at h5 <;> omega
      · rw [MeetP_comm]
        refine (h2 k hk).2 i hi ?_ (fun e => h5 e.symm)
        rw [suc_eq hk] at h6
        split at h6 <;> omega
  · rintro ⟨⟨h3, h10⟩, h1, h2, h4, h5⟩
    refine ⟨h3, h10, fun i hi => ⟨h1 i hi, h2 i hi⟩, fun i hi => ⟨?_, fun k hk hik hne => ?_⟩⟩
    · have := h4 i hi; rw [suc2] at this; exact this
    · refine h5 i k hi hk (by omega) ?_ (fun e => hne e.symm)
      rw [suc_eq hi]
      split <;> omega

theorem conv_iff (n : Nat) (p : Nat → Int × Int) : convB n p = true ↔ (¬ ∃ i, i < n ∧ 0 < crossAt n p i) ∨ ¬ ∃ i, i < n ∧ crossAt n p i < 0 := by
  have a1 := anyL_iff (fun i => decide (0 < crossAt n p i)) n
  have a2 := anyL_iff (fun i => decide (crossAt n p i < 0)) n
  simp only [decide_eq_true_eq] at a1 a2
  rw [← a1, ← a2]
  unfold convB
  simp
theorem conv_same {n : Nat} {p q : Nat → Int × Int} (h1 : (∃ i, i < n ∧ 0 < crossAt n p i) ↔ ∃ i, i < n ∧ 0 < crossAt n q i) (h2 : (∃ i, i < n ∧ crossAt n p i < 0) ↔ ∃ i, i < n ∧ crossAt n q i < 0) : convB n p = convB n q := by
  rw [Bool.eq_iff_iff, conv_iff, conv_iff, h1, h2]
theorem conv_turn {n : Nat} {p q : Nat → Int × Int} (h1 : (∃ i, i < n ∧ 0 < crossAt n p i) ↔ ∃ i, i < n ∧ crossAt n q i < 0) (h2 : (∃ i, i < n ∧ crossAt n p i < 0) ↔ ∃ i, i < n ∧ 0 < crossAt n q i) : convB n p = convB n q := by
  rw [Bool.eq_iff_iff, conv_iff, conv_iff, h1, h2, or_comm]
theorem crossAt_suc (n : Nat) (p : Nat → Int × Int) (i : Nat) : crossAt n p i = crossI (p i) (p (suc n i)) (p (suc n (suc n i))) := by rw [suc2]; rfl

theorem like_congr {n : Nat} {p q : Nat → Int × Int} (h : ∀ i, i < n → p i = q i) : Like n p q := by
  have hs : ∀ i, i < n → sideAt n p i = sideAt n q i := fun i hi => by unfold sideAt; rw [h i hi, show p ((i + 1) % n) = q ((i + 1) % n) from h _ (suc_lt hi)]
  have hc : ∀ i, i < n → crossAt n p i = crossAt n q i := fun i hi => by rw [crossAt_suc, crossAt_suc, h i hi, h _ (suc_lt hi), h _ (suc_lt (suc_lt hi))]
  have key : ∀ p q : Nat → Int × Int, (∀ i, i < n → p i = q i) → PenS n p → PenS n q := by
    rintro p q h ⟨h3, h1, h2, h4, h5⟩
    refine ⟨h3, fun i hi => by rw [← h i hi]; exact h1 i hi, fun i hi => by rw [← h i hi, ← h _ (suc_lt hi)]; exact h2 i hi, fun i hi => ?_, fun i k hi hk a b c => ?_⟩
    · rw [← h i hi, ← h _ (suc_lt hi), ← h _ (suc_lt (suc_lt hi))]; exact h4 i hi
    · rw [← h i hi, ← h _ (suc_lt hi), ← h k hk, ← h _ (suc_lt hk)]; exact h5 i k hi hk a b c
  refine ⟨by rw [pen_sym, pen_sym]; exact ⟨key p q h, key q p (fun i hi => (h i hi).symm)⟩, ?_, ?_, ?_⟩
  · unfold areaI signedI; rw [sumI_congr (fun i hi => by rw [hs i hi])]
  · unfold borderI; exact sumI_congr (fun i hi => by rw [hs i hi])
  · refine conv_same ⟨fun ⟨i, hi, k⟩ => ⟨i, hi, by rw [← hc i hi]; exact k⟩, fun ⟨i, hi, k⟩ => ⟨i, hi, by rw [hc i hi]; exact k⟩⟩ ⟨fun ⟨i, hi, k⟩ => ⟨i, hi, by rw [← hc i hi]; exact k⟩, fun ⟨i, hi, k⟩ => ⟨i, hi, by rw [hc i hi]; exact k⟩⟩

/-- Begun with the second post. -/
def rotP (n : Nat) (p : Nat → Int × Int) (i : Nat) : Int × Int := p (suc n i)
theorem like_rot (n : Nat) (p : Nat → Int × Int) : Like n (rotP n p) p := by
  have hs : ∀ i, sideAt n (rotP n p) i = sideAt n p ((i + 1) % n) := fun i => rfl
  refine ⟨?_, ?_, ?_, ?_⟩
  · rw [pen_sym, pen_sym]
    constructor
    · rintro ⟨h3, h1, h2, h4, h5⟩
      refine ⟨h3, fun j hj => ?_, fun j hj => ?_, fun j hj => ?_, fun j l hj hl a b c => ?_⟩
      · obtain ⟨i, hi, rfl⟩ := suc_sur hj; exact h1 i hi
      · obtain ⟨i, hi, rfl⟩ := suc_sur hj; exact h2 i hi
      · obtain ⟨i, hi, rfl⟩ := suc_sur hj; exact h4 i hi
      · obtain ⟨i, hi, rfl⟩ := suc_sur hj
        obtain ⟨k, hk, rfl⟩ := suc_sur hl
        exact h5 i k hi hk (fun e => a (by rw [e])) (fun e => b (by rw [e])) (fun e => c (by rw [e]))
    · rintro ⟨h3, h1, h2, h4, h5⟩
      refine ⟨h3, fun i hi => h1 _ (suc_lt hi), fun i hi => h2 _ (suc_lt hi), fun i hi => h4 _ (suc_lt hi), fun i k hi hk a b c => ?_⟩
      exact h5 _ _ (suc_lt hi) (suc_lt hk) (fun e => a (suc_inj hk hi e)) (fun e => b (suc_inj hk (suc_lt hi) e)) (fun e => c (suc_inj hi (suc_lt hk) e))
  · unfold areaI signedI; simp only [hs]; rw [sumI_round (fun i => crossO (sideAt n p i))]
  · unfold borderI; simp only [hs]; exact sumI_round (fun i => stepsO (sideAt n p i)) n
  · have hc : ∀ i, crossAt n (rotP n p) i = crossAt n p (suc n i) := fun i => by rw [crossAt_suc, crossAt_suc]; rfl
    refine conv_same ⟨fun ⟨i, hi, k⟩ => ⟨_, suc_lt hi, by rw [← hc]; exact k⟩, fun ⟨j, hj, k⟩ => ?_⟩ ⟨fun ⟨i, hi, k⟩ => ⟨_, suc_lt hi, by rw [← hc]; exact k⟩, fun ⟨j, hj, k⟩ => ?_⟩
    · obtain ⟨i, hi, rfl⟩ := suc_sur hj; exact ⟨i, hi, by rw [hc]; exact k⟩
    · obtain ⟨i, hi, rfl⟩ := suc_sur hj; exact ⟨i, hi, by rw [hc]; exact k⟩

theorem sumI_zeros (f : Nat → Int) (n : Nat) (h : ∀ i, i < n → f i = 0) : sumI f n = 0 := by
  induction n with
  | zero => rfl
  | succ n ih => rw [sumI, ih (fun i hi => h i (by omega)), h n (by omega)]; rfl
theorem sumI_rev (f : Nat → Int) (n : Nat) : sumI (fun i => f (n - 1 - i)) n = sumI f n := by
  induction n generalizing f with
  | zero => rfl
  | succ n ih =>
    rw [sumI_first (fun i => f (n + 1 - 1 - i)), sumI]
    have e : sumI (fun i => f (n + 1 - 1 - (i + 1))) n = sumI (fun i => f (n - 1 - i)) n := sumI_congr (fun i hi => by rw [show n + 1 - 1 - (i + 1) = n - 1 - i by omega])
    rw [e, ih]
    simp only [Nat.add_sub_cancel, Nat.sub_zero]
    omega
theorem sumI_neg (f : Nat → Int) (n : Nat) : sumI (fun i => - f i) n = - sumI f n := by
  induction n with
  | zero => rfl
  | succ n ih => rw [sumI, ih, sumI]; omega
/-- Around the other way. -/
def revP (n : Nat) (p : Nat → Int × Int) (i : Nat) : Int × Int := p (n - 1 - i)
theorem rev_suc {n i : Nat} (hi : i < n) : n - 1 - suc n i < n ∧ suc n (n - 1 - suc n i) = n - 1 - i := by
  rw [suc_eq hi]
  split
  · next e => exact ⟨by omega, by rw [suc_eq (by omega), if_pos (by omega)]; omega⟩
  · next e => exact ⟨by omega, by rw [suc_eq (by omega), if_neg (by omega)]; omega⟩
theorem stepsO_swap (a b : Int × Int) : stepsO (b, a) = stepsO (a, b) := by
  simp only [stepsO]
  rw [show b.1 - a.1 = -(a.1 - b.1) by omega, show b.2 - a.2 = -(a.2 - b.2) by omega, Int.natAbs_neg, Int.natAbs_neg]
theorem crossO_swap (a b : Int × Int) : crossO (b, a) = - crossO (a, b) := by
  simp only [crossO, crossI]; grind
theorem like_rev (n : Nat) (p : Nat → Int × Int) : Like n (revP n p) p := by
  have hs : ∀ i, i < n → sideAt n (revP n p) i = ((sideAt n p (n - 1 - suc n i)).2, (sideAt n p (n - 1 - suc n i)).1) := fun i hi => by
    obtain ⟨_, h2⟩ := rev_suc hi
    unfold sideAt
    dsimp only
    change (p (n - 1 - i), p (n - 1 - suc n i)) = (p (suc n (n - 1 - suc n i)), _)
    rw [h2]
  have key : ∀ p : Nat → Int × Int, PenS n p → PenS n (revP n p) := by
    rintro p ⟨h3, h1, h2, h4, h5⟩
    refine ⟨h3, fun i hi => h1 _ (by omega), fun i hi => ?_, fun i hi => ?_, fun i k hi hk a b c => ?_⟩
    · obtain ⟨q1, q2⟩ := rev_suc hi
      intro e
      exact h2 _ q1 (by rw [q2]; exact e.symm)
    · obtain ⟨q1, q2⟩ := rev_suc hi
      obtain ⟨q3, q4⟩ := rev_suc (suc_lt hi)
      have := h4 _ q3
      rw [q4, q2] at this
      unfold revP
      exact ⟨fun h => this.2 (OnP_swap.1 h), fun h => this.1 (OnP_swap.1 h)⟩
    · obtain ⟨q1, q2⟩ := rev_suc hi
      obtain ⟨q3, q4⟩ := rev_suc hk
      have l1 := suc_lt hi
      have l2 := suc_lt hk
      have := h5 _ _ q1 q3 (fun e => a (suc_inj hk hi (by omega))) (fun e => ?_) (fun e => ?_)
      · rw [q2, q4] at this
        unfold revP
        rw [MeetP_swap]; exact this
      · rw [q2] at e; exact c (by omega)
      · rw [q4] at e; exact b (by omega)
  refine ⟨?_, ?_, ?_, ?_⟩
  · rw [pen_sym, pen_sym]
    refine ⟨fun h => ?_, key p⟩
    have := key _ h
    have e : ∀ i, i < n → revP n (revP n p) i = p i := fun i hi => by unfold revP; rw [show n - 1 - (n - 1 - i) = i by omega]
    rw [← pen_sym] at this ⊢
    exact (like_congr e).pen.1 this
  · unfold areaI signedI
    rw [sumI_congr (g := fun i => - (fun j => crossO (sideAt n p (n - 1 - j))) ((i + 1) % n)) (fun i hi => by rw [hs i hi]; exact crossO_swap _ _), sumI_neg, sumI_round (fun j => crossO (sideAt n p (n - 1 - j))), sumI_rev (fun j => crossO (sideAt n p j)), Int.natAbs_neg]
  · unfold borderI
    rw [sumI_congr (g := fun i => (fun j => stepsO (sideAt n p (n - 1 - j))) ((i + 1) % n)) (fun i hi => by rw [hs i hi]; exact stepsO_swap _ _), sumI_round (fun j => stepsO (sideAt n p (n - 1 - j))), sumI_rev (fun j => stepsO (sideAt n p j))]
  · have hc : ∀ i, i < n → crossAt n (revP n p) i = - crossAt n p (n - 1 - suc n (suc n i)) := fun i hi => by
      obtain ⟨q1, q2⟩ := rev_suc hi
      obtain ⟨q3, q4⟩ := rev_suc (suc_lt hi)
      rw [crossAt_suc, crossAt_suc, q4, q2]
      exact cross_rev _ _ _
    have hl : ∀ i, i < n → n - 1 - suc n (suc n i) < n := fun i hi => by omega
    have hsur : ∀ j, j < n → ∃ i, i < n ∧ n - 1 - suc n (suc n i) = j := fun j hj => by
      obtain ⟨i', hi', e'⟩ := suc_sur (n := n) (j := n - 1 - j) (by omega)
      obtain ⟨i, hi, e⟩ := suc_sur hi'
      exact ⟨i, hi, by rw [e, e']; omega⟩
    refine conv_turn ⟨fun ⟨i, hi, k⟩ => ⟨_, hl i hi, by rw [hc i hi] at k; omega⟩, fun ⟨j, hj, k⟩ => ?_⟩ ⟨fun ⟨i, hi, k⟩ => ⟨_, hl i hi, by rw [hc i hi] at k; omega⟩, fun ⟨j, hj, k⟩ => ?_⟩
    · obtain ⟨i, hi, rfl⟩ := hsur j hj; exact ⟨i, hi, by rw [hc i hi]; omega⟩
    · obtain ⟨i, hi, rfl⟩ := hsur j hj; exact ⟨i, hi, by rw [hc i hi]; omega⟩
/-- Turned around, begun with post f. -/
def turnP (n : Nat) (p : Nat → Int × Int) (f : Nat) (i : Nat) : Int × Int := p ((f + n - i) % n)
theorem like_turned (n : Nat) (p : Nat → Int × Int) (f : Nat) : Like n (turnP n p f) p := by
  induction f with
  | zero =>
    refine Like.trans ((like_rot n _).symm.trans (like_congr (q := revP n p) fun i hi => ?_)) (like_rev n p)
    unfold rotP turnP revP
    rw [suc_eq hi]
    split
    · next e => rw [show 0 + n - 0 = n by omega, Nat.mod_self, show n - 1 - i = 0 by omega]
    · rw [show 0 + n - (i + 1) = n - 1 - i by omega, Nat.mod_eq_of_lt (by omega)]
  | succ f ih =>
    refine Like.trans ((like_rot n _).symm.trans (like_congr (q := turnP n p f) fun i hi => ?_)) ih
    unfold rotP turnP
    rw [suc_eq hi]
    split
    · next e => rw [show f + 1 + n - 0 = f + n - i + n by omega, Nat.add_mod_right]
    · rw [show f + 1 + n - (i + 1) = f + n - i by omega]

/-- Sheared. -/
def shP (a b c d : Int) (q : Int × Int) : Int × Int := (a * q.1 + b * q.2, c * q.1 + d * q.2)
theorem cross_sh (a b c d : Int) (x y z : Int × Int) : crossI (shP a b c d x) (shP a b c d y) (shP a b c d z) = (a * d - b * c) * crossI x y z := by
  unfold crossI shP; grind
theorem btw_mul {y Y z Z : Int} (h0 : Y ≠ 0) (h : 0 ≤ y ∧ y ≤ Y ∨ Y ≤ y ∧ y ≤ 0) (e : Y * z = y * Z) : 0 ≤ z ∧ z ≤ Z ∨ Z ≤ z ∧ z ≤ 0 := by
  have hp : ∀ Y u : Int, 0 < Y → 0 ≤ Y * u → 0 ≤ u := fun Y u hY hu => Int.le_of_mul_le_mul_left (by simpa using hu) hY
  have key : ∀ y Y z Z : Int, 0 < Y → 0 ≤ y → y ≤ Y → Y * z = y * Z → 0 ≤ z ∧ z ≤ Z ∨ Z ≤ z ∧ z ≤ 0 := by
    intro y Y z Z hY h1 h2 e
    rcases Int.le_total 0 Z with hZ | hZ
    · have e1 := Int.mul_nonneg h1 hZ
      have e2 := Int.mul_nonneg (show 0 ≤ Y - y by omega) hZ
      have e3 : Y * (Z - z) = (Y - y) * Z := by rw [Int.mul_sub, e, Int.sub_mul]
      have r1 := hp Y z hY (by omega)
      have r2 := hp Y (Z - z) hY (by omega)
      omega
    · have e1 := Int.mul_nonneg h1 (show 0 ≤ -Z by omega)
      have e2 := Int.mul_nonneg (show 0 ≤ Y - y by omega) (show 0 ≤ -Z by omega)
      have e3 : Y * (z - Z) = (Y - y) * (-Z) := by rw [Int.mul_sub, e, Int.sub_mul, Int.mul_neg, Int.mul_neg]; omega
      have e4 : Y * (-z) = y * (-Z) := by rw [Int.mul_neg, Int.mul_neg, e]
      have r1 := hp Y (-z) hY (by omega)
      have r2 := hp Y (z - Z) hY (by omega)
      omega
  rcases h with ⟨h1, h2⟩ | ⟨h1, h2⟩
  · exact key y Y z Z (by omega) h1 h2 e
  · exact key (-y) (-Y) z Z (by omega) (by omega) (by omega) (by rw [Int.neg_mul, Int.neg_mul, e])
theorem btw_lin {x y X Y m k : Int} (h : X * y - Y * x = 0) (hx : 0 ≤ x ∧ x ≤ X ∨ X ≤ x ∧ x ≤ 0) (hy : 0 ≤ y ∧ y ≤ Y ∨ Y ≤ y ∧ y ≤ 0) : 0 ≤ m * x + k * y ∧ m * x + k * y ≤ m * X + k * Y ∨ m * X + k * Y ≤ m * x + k * y ∧ m * x + k * y ≤ 0 := by
  by_cases hX : X = 0
  · by_cases hY : Y = 0
    · obtain rfl : x = 0 := by omega
      obtain rfl : y = 0 := by omega
      subst hX; subst hY; simp
    · refine btw_mul hY hy ?_
      grind
  · refine btw_mul hX hx ?_
    grind
theorem OnP_sh (a b c d : Int) {x y z : Int × Int} (h : OnP x y z) : OnP (shP a b c d x) (shP a b c d y) (shP a b c d z) := by
  obtain ⟨h1, h2, h3⟩ := h
  refine ⟨by rw [cross_sh, h1, Int.mul_zero], ?_, ?_⟩
  · have := btw_lin (x := z.1 - x.1) (y := z.2 - x.2) (X := y.1 - x.1) (Y := y.2 - x.2) (m := a) (k := b) h1 (by omega) (by omega)
    simp only [Int.mul_sub] at this
    unfold shP
    dsimp only
    omega
  · have := btw_lin (x := z.1 - x.1) (y := z.2 - x.2) (X := y.1 - x.1) (Y := y.2 - x.2) (m := c) (k := d) h1 (by omega) (by omega)
    simp only [Int.mul_sub] at this
    unfold shP
    dsimp only
    omega
theorem sh_back {a b c d : Int} {e : Int} (he : a * d - b * c = e) (h : e = 1 ∨ e = -1) (q : Int × Int) : shP (e * d) (-(e * b)) (-(e * c)) (e * a) (shP a b c d q) = q := by
  have h2 : e * e = 1 := by rcases h with h | h <;> subst h <;> rfl
  unfold shP
  ext
  · dsimp only; grind
  · dsimp only; grind
theorem OnP_sh_iff {a b c d e : Int} (he : a * d - b * c = e) (h : e = 1 ∨ e = -1) {x y z : Int × Int} : OnP (shP a b c d x) (shP a b c d y) (shP a b c d z) ↔ OnP x y z := by
  refine ⟨fun k => ?_, OnP_sh a b c d⟩
  have := OnP_sh (e * d) (-(e * b)) (-(e * c)) (e * a) k
  rwa [sh_back he h, sh_back he h, sh_back he h] at this
theorem Opp_sh {e x y : Int} (h : e = 1 ∨ e = -1) : Opp (e * x) (e * y) ↔ Opp x y := by
  rcases h with h | h <;> subst h
  · simp only [Int.one_mul]
  · simp only [Int.neg_mul, Int.one_mul]; exact Opp_neg
theorem MeetP_sh {a b c d e : Int} (he : a * d - b * c = e) (h : e = 1 ∨ e = -1) {x y z u : Int × Int} : MeetP (shP a b c d x) (shP a b c d y) (shP a b c d z) (shP a b c d u) ↔ MeetP x y z u := by
  unfold MeetP
  rw [OnP_sh_iff he h, OnP_sh_iff he h, OnP_sh_iff he h, OnP_sh_iff he h, cross_sh, cross_sh, cross_sh, cross_sh, he, Opp_sh h, Opp_sh h]
theorem sumI_mul (e : Int) (f : Nat → Int) (n : Nat) : sumI (fun i => e * f i) n = e * sumI f n := by
  induction n with
  | zero => simp [sumI]
  | succ n ih => rw [sumI, ih, sumI, Int.mul_add]
theorem gcd_sh (a b c d x y : Int) : Nat.gcd x.natAbs y.natAbs ∣ Nat.gcd (a * x + b * y).natAbs (c * x + d * y).natAbs := by
  have h1 : (Nat.gcd x.natAbs y.natAbs : Int) ∣ x := Int.ofNat_dvd_left.2 (Nat.gcd_dvd_left _ _)
  have h2 : (Nat.gcd x.natAbs y.natAbs : Int) ∣ y := Int.ofNat_dvd_left.2 (Nat.gcd_dvd_right _ _)
  exact Nat.dvd_gcd (Int.ofNat_dvd_left.1 (Int.dvd_add (Int.dvd_trans h1 (Int.dvd_mul_left _ _)) (Int.dvd_trans h2 (Int.dvd_mul_left _ _))))
    (Int.ofNat_dvd_left.1 (Int.dvd_add (Int.dvd_trans h1 (Int.dvd_mul_left _ _)) (Int.dvd_trans h2 (Int.dvd_mul_left _ _))))
theorem stepsO_sh {a b c d e : Int} (he : a * d - b * c = e) (h : e = 1 ∨ e = -1) (x y : Int × Int) : stepsO (shP a b c d x, shP a b c d y) = stepsO (x, y) := by
  have key : ∀ (a b c d : Int) (x y : Int × Int), Nat.gcd (y.1 - x.1).natAbs (y.2 - x.2).natAbs ∣ Nat.gcd ((shP a b c d y).1 - (shP a b c d x).1).natAbs ((shP a b c d y).2 - (shP a b c d x).2).natAbs := by
    intro a b c d x y
    have := gcd_sh a b c d (y.1 - x.1) (y.2 - x.2)
    have e1 : (shP a b c d y).1 - (shP a b c d x).1 = a * (y.1 - x.1) + b * (y.2 - x.2) := by unfold shP; dsimp only; grind
    have e2 : (shP a b c d y).2 - (shP a b c d x).2 = c * (y.1 - x.1) + d * (y.2 - x.2) := by unfold shP; dsimp only; grind
    rw [e1, e2]
    exact this
  have k1 := key a b c d x y
  have k2 := key (e * d) (-(e * b)) (-(e * c)) (e * a) (shP a b c d x) (shP a b c d y)
  rw [sh_back he h, sh_back he h] at k2
  unfold stepsO
  exact congrArg Nat.cast (Nat.dvd_antisymm k2 k1)
theorem like_sh {a b c d e : Int} (he : a * d - b * c = e) (h : e = 1 ∨ e = -1) (n : Nat) (p : Nat → Int × Int) (hs : ∀ i, i < n → Sm 50 (p i)) (hs' : ∀ i, i < n → Sm 50 (shP a b c d (p i))) : Like n (fun i => shP a b c d (p i)) p := by
  have hc : ∀ i, crossAt n (fun i => shP a b c d (p i)) i = e * crossAt n p i := fun i => by unfold crossAt; rw [cross_sh, he]
  refine ⟨?_, ?_, ?_, ?_⟩
  · rw [pen_sym, pen_sym]
    unfold PenS
    simp only [OnP_sh_iff he h, MeetP_sh he h]
    refine ⟨fun ⟨h3, _, h2, h4⟩ => ⟨h3, hs, fun i hi e' => h2 i hi (by rw [e']), h4⟩, fun ⟨h3, _, h2, h4⟩ => ⟨h3, hs', fun i hi e' => h2 i hi ?_, h4⟩⟩
    have := congrArg (shP (e * d) (-(e * b)) (-(e * c)) (e * a)) e'
    rwa [sh_back he h, sh_back he h] at this
  · have hz : shP a b c d (0, 0) = (0, 0) := by simp [shP]
    have hx : ∀ i, crossO (sideAt n (fun i => shP a b c d (p i)) i) = e * crossO (sideAt n p i) := fun i => by
      unfold crossO sideAt; dsimp only; rw [← he, ← cross_sh, hz]
    unfold areaI signedI
    rw [sumI_congr (fun i _ => hx i), sumI_mul]
    rcases h with h | h <;> subst h <;> omega
  · unfold borderI sideAt
    exact sumI_congr (fun i _ => stepsO_sh he h _ _)
  · rcases h with h | h <;> subst h
    · exact conv_same ⟨fun ⟨i, hi, k⟩ => ⟨i, hi, by rw [hc] at k; omega⟩, fun ⟨i, hi, k⟩ => ⟨i, hi, by rw [hc]; omega⟩⟩ ⟨fun ⟨i, hi, k⟩ => ⟨i, hi, by rw [hc] at k; omega⟩, fun ⟨i, hi, k⟩ => ⟨i, hi, by rw [hc]; omega⟩⟩
    · exact conv_turn ⟨fun ⟨i, hi, k⟩ => ⟨i, hi, by rw [hc] at k; omega⟩, fun ⟨i, hi, k⟩ => ⟨i, hi, by rw [hc]; omega⟩⟩ ⟨fun ⟨i, hi, k⟩ => ⟨i, hi, by rw [hc] at k; omega⟩, fun ⟨i, hi, k⟩ => ⟨i, hi, by rw [hc]; omega⟩⟩
/-- Grown t times. -/
def scP (t : Int) (p : Nat → Int × Int) (i : Nat) : Int × Int := (t * (p i).1, t * (p i).2)
theorem signed_sc (t : Int) (n : Nat) (p : Nat → Int × Int) : signedI n (scP t p) = t * t * signedI n p := by
  have hx : ∀ i, crossO (sideAt n (scP t p) i) = t * t * crossO (sideAt n p i) := fun i => by unfold crossO sideAt crossI scP; dsimp only; grind
  unfold signedI
  rw [sumI_congr (fun i _ => hx i), sumI_mul]
theorem area_sc {t : Int} (ht : 0 ≤ t) (n : Nat) (p : Nat → Int × Int) : areaI n (scP t p) = areaI n p * t * t := by
  unfold areaI
  rw [signed_sc, Int.natAbs_mul, Int.natAbs_mul, Int.natCast_mul, Int.natCast_mul, Int.natAbs_of_nonneg ht]
  grind
theorem border_sc {t : Int} (ht : 0 ≤ t) (n : Nat) (p : Nat → Int × Int) : borderI n (scP t p) = borderI n p * t := by
  have hx : ∀ i, stepsO (sideAt n (scP t p) i) = t * stepsO (sideAt n p i) := fun i => by
    unfold stepsO sideAt scP; dsimp only
    rw [← Int.mul_sub, ← Int.mul_sub, Int.natAbs_mul, Int.natAbs_mul, Nat.gcd_mul_left, Int.natCast_mul, Int.natAbs_of_nonneg ht]
  unfold borderI
  rw [sumI_congr (fun i _ => hx i), sumI_mul, Int.mul_comm]
theorem mul_mod2 (x y : Int) : (x * y) % 2 = ((x % 2) * (y % 2)) % 2 := Int.mul_emod _ _ _
/-- What the numbers of Grown are. -/
theorem grown_fit {A B : Int} (hp : A % 2 = B % 2) (t : Int) : 2 * grownI A B t = A * t * t + B * t + 2 ∧ 2 * grownI A B (-t) = A * t * t - B * t + 2 := by
  have hm : ∀ s : Int, (A * s * s + B * s + 2) % 2 = 0 := by
    intro s
    have e1 := mul_mod2 (A * s) s
    have e2 := mul_mod2 A s
    have e3 := mul_mod2 B s
    rw [e2] at e1
    have ha : A % 2 = 0 ∨ A % 2 = 1 := by omega
    have hs : s % 2 = 0 ∨ s % 2 = 1 := by omega
    rcases ha with ha | ha <;> rcases hs with hs | hs <;> rw [← hp] at e3 <;> simp only [ha, hs] at e1 e3 <;> omega
  have key : ∀ s : Int, 2 * grownI A B s = A * s * s + B * s + 2 := fun s => by
    unfold grownI
    exact Int.mul_tdiv_cancel' (Int.dvd_of_emod_eq_zero (hm s))
  refine ⟨key t, ?_⟩
  rw [key (-t)]
  grind
/-- What Count tells of the grown pen. -/
theorem grown_count {A B t : Int} (hp : A % 2 = B % 2) : grownI (A * t * t) (B * t) (-1) = grownI A B (-t) ∧ B * t + grownI (A * t * t) (B * t) (-1) = grownI A B t := by
  have e : A * t * t * -1 * -1 + B * t * -1 + 2 = A * -t * -t + B * -t + 2 := by grind
  have e1 : grownI (A * t * t) (B * t) (-1) = grownI A B (-t) := by unfold grownI; rw [e]
  obtain ⟨h1, h2⟩ := grown_fit hp t
  refine ⟨e1, ?_⟩
  rw [e1]
  omega
theorem grown_one {A B : Int} (hp : A % 2 = B % 2) : grownI A B 1 = B + grownI A B (-1) := by
  have := (grown_count (t := 1) hp).2
  simp only [Int.mul_one] at this
  omega
end Go.Proofs.Ytnjegnlfdbbleaa
