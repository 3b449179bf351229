/- Layer 1: both words on a convex pen are the same. -/
import Derived.Test.YtnjegnlfdbbleaaPb
namespace Go.Proofs.Ytnjegnlfdbbleaa
open Go Go.RowKit Go.Shelf

/-- The post before post i. -/
def prevP (n : Nat) (p : Nat → Int × Int) (i : Nat) : Int × Int := if i = 0 then p (n - 1) else p (i - 1)
/-- How a pen turns at post i. -/
def turnAt (n : Nat) (p : Nat → Int × Int) (i : Nat) : Int := crossI (prevP n p i) (p i) (p ((i + 1) % n))
def bendTo (n : Nat) (p : Nat → Int × Int) (k : Nat) : Bend := (sidesTo n p k).foldl bstep ⟨0, 0, p (n - 1)⟩
theorem bendTo_succ (n : Nat) (p : Nat → Int × Int) (k : Nat) : bendTo n p (k + 1) = bstep (bendTo n p k) (sideAt n p k) := by
  unfold bendTo
  rw [sidesTo_succ, List.foldl_append]
  rfl
theorem bendTo_all (n : Nat) (p : Nat → Int × Int) (k : Nat) : (bendTo n p k).before = prevP n p k ∧ 0 ≤ (bendTo n p k).left ∧ 0 ≤ (bendTo n p k).right ∧
    ((bendTo n p k).left = 0 ↔ ¬ ∃ i, i < k ∧ 0 < turnAt n p i) ∧ ((bendTo n p k).right = 0 ↔ ¬ ∃ i, i < k ∧ turnAt n p i < 0) := by
  induction k with
  | zero => exact ⟨rfl, Int.le_refl _, Int.le_refl _, ⟨fun _ ⟨i, hi, _⟩ => by omega, fun _ => rfl⟩, ⟨fun _ ⟨i, hi, _⟩ => by omega, fun _ => rfl⟩⟩
  | succ k ih =>
    obtain ⟨h1, h2, h3, h4, h5⟩ := ih
    rw [bendTo_succ]
    have ht : crossI (bendTo n p k).before (sideAt n p k).1 (sideAt n p k).2 = turnAt n p k := by rw [h1]; rfl
    unfold bstep
    rw [ht]
    have split : ∀ (f : Nat → Prop), (∃ i, i < k + 1 ∧ f i) ↔ (∃ i, i < k ∧ f i) ∨ f k := fun f =>
      ⟨fun ⟨i, hi, h⟩ => by
        by_cases hik : i = k
        · subst hik; exact .inr h
        · exact .inl ⟨i, by omega, h⟩, fun h => h.elim (fun ⟨i, hi, h⟩ => ⟨i, by omega, h⟩) (fun h => ⟨k, by omega, h⟩)⟩
    refine ⟨by simp [prevP, sideAt], ?_, ?_, ?_, ?_⟩
    · dsimp only; split <;> omega
    · dsimp only; split <;> omega
    · rw [split (fun i => 0 < turnAt n p i)]
      dsimp only
      by_cases g : 0 < turnAt n p k
      · rw [if_pos g]
        exact ⟨fun h => by omega, fun h => absurd (.inr g) h⟩
      · rw [if_neg g, h4]
        exact ⟨fun h h' => h'.elim h g, fun h h' => h (.inl h')⟩
    · rw [split (fun i => turnAt n p i < 0)]
      dsimp only
      by_cases g : turnAt n p k < 0
      · rw [if_pos g]
        exact ⟨fun h => by omega, fun h => absurd (.inr g) h⟩
      · rw [if_neg g, h5]
        exact ⟨fun h h' => h'.elim h g, fun h h' => h (.inl h')⟩
theorem cross_turn (n : Nat) (p : Nat → Int × Int) (i : Nat) (hi : i < n) : crossAt n p i = turnAt n p ((i + 1) % n) := by
  unfold crossAt turnAt
  have e1 : prevP n p ((i + 1) % n) = p i := by
    unfold prevP
    by_cases h : i + 1 = n
    · rw [h, Nat.mod_self, if_pos rfl, ← h]; rfl
    · rw [Nat.mod_eq_of_lt (by omega), if_neg (by omega)]; rfl
  have e2 : ((i + 1) % n + 1) % n = (i + 2) % n := by rw [Nat.mod_add_mod]
  rw [e1, e2]
theorem turn_cross (n : Nat) (p : Nat → Int × Int) (i : Nat) (hi : i < n) : ∃ j, j < n ∧ crossAt n p j = turnAt n p i := by
  by_cases h : i = 0
  · subst h
    refine ⟨n - 1, by omega, ?_⟩
    rw [cross_turn n p (n - 1) (by omega), show n - 1 + 1 = n by omega, Nat.mod_self]
  · refine ⟨i - 1, by omega, ?_⟩
    rw [cross_turn n p (i - 1) (by omega), show i - 1 + 1 = i by omega, Nat.mod_eq_of_lt hi]
theorem some_same (n : Nat) (p : Nat → Int × Int) (h1 : 1 ≤ n) (f : Int → Prop) : (∃ i, i < n ∧ f (turnAt n p i)) ↔ ∃ i, i < n ∧ f (crossAt n p i) :=
  ⟨fun ⟨i, hi, h⟩ => by obtain ⟨j, hj, e⟩ := turn_cross n p i hi; exact ⟨j, hj, by rw [e]; exact h⟩,
   fun ⟨i, hi, h⟩ => ⟨(i + 1) % n, Nat.mod_lt _ (by omega), by rw [← cross_turn n p i hi]; exact h⟩⟩
theorem flat_conv (n : Nat) (p : Nat → Int × Int) (h1 : 1 ≤ n) : flatB n p = convB n p := by
  obtain ⟨_, _, _, h4, h5⟩ := bendTo_all n p n
  rw [some_same n p h1 (fun x => 0 < x)] at h4
  rw [some_same n p h1 (fun x => x < 0)] at h5
  have a1 := anyL_iff (fun i => decide (0 < crossAt n p i)) n
  have a2 := anyL_iff (fun i => decide (crossAt n p i < 0)) n
  simp only [decide_eq_true_eq] at a1 a2
  rw [← a1] at h4
  rw [← a2] at h5
  unfold flatB convB
  change ((bendTo n p n).left == 0 || (bendTo n p n).right == 0) = _
  rw [Bool.eq_iff_iff, Bool.or_eq_true, Bool.or_eq_true, beq_iff_eq, beq_iff_eq, h4, h5]
  simp
end Go.Proofs.Ytnjegnlfdbbleaa
