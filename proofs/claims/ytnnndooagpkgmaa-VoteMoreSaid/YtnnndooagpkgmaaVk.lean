/- Layer 3: sets without others; bodies and rules make games. -/
import Derived.Test.YtnnndooagpkgmaaVj
namespace Go.Proofs.Ytnnndooagpkgmaa
open Go Go.RowKit

/-- The drovers of a that are not in b. -/
def dif (a b : Nat) : Nat := a ^^^ (a &&& b)
theorem dif_test (a b i : Nat) : (dif a b).testBit i = (a.testBit i && !(b.testBit i)) := by
  unfold dif
  rw [Nat.testBit_xor, Nat.testBit_and]
  cases a.testBit i <;> cases b.testBit i <;> rfl
theorem dif_zero {a b : Nat} : dif a b = 0 ↔ inB a b = true := by
  rw [inB_iff]
  constructor
  · intro h i hi
    have := dif_test a b i
    rw [h, hi] at this
    simpa using this
  · intro h
    apply Nat.eq_of_testBit_eq
    intro i
    rw [dif_test, Nat.zero_testBit]
    cases ha : a.testBit i
    · rfl
    · rw [h i ha]; rfl
theorem andNot_bv (a b : Nat) (ha : a < 9223372036854775808) (_hb : b < 9223372036854775808) : (BitVec.ofNat 64 a &&& ~~~ (BitVec.ofNat 64 b)).toNat = dif a b := by
  apply Nat.eq_of_testBit_eq
  intro i
  rw [BitVec.testBit_toNat, BitVec.getLsbD_and, BitVec.getLsbD_not, BitVec.getLsbD_ofNat, BitVec.getLsbD_ofNat, dif_test]
  have h2 : ∀ c, c < 9223372036854775808 → 64 ≤ i → c.testBit i = false := fun c hc hi => Nat.testBit_lt_two_pow (Nat.lt_of_lt_of_le hc (Nat.le_trans (by decide) (Nat.pow_le_pow_right (by omega) hi)))
  by_cases hi : i < 64
  · simp [hi]
  · rw [h2 a ha (by omega)]; simp
theorem dif_le (a b : Nat) : dif a b ≤ a := inB_le (inB_iff.2 fun i hi => by rw [dif_test] at hi; simp at hi; exact hi.1)
theorem i64_andNot_nat (a b : Nat) (ha : a < 9223372036854775808) (hb : b < 9223372036854775808) : bits .andNot .i64 (a : Int) (b : Int) = ((dif a b : Nat) : Int) := by
  have h1 := dif_le a b
  show IntKind.i64.wrap ((BitVec.ofInt 64 (a : Int) &&& ~~~ BitVec.ofInt 64 (b : Int)).toNat : Int) = _
  rw [BitVec.ofInt_natCast, BitVec.ofInt_natCast, andNot_bv a b ha hb, IntKind.wrap_i64]
  omega
theorem i64_xor_nat (a b : Nat) (ha : a < 9223372036854775808) (hb : b < 9223372036854775808) : bits .xor .i64 (a : Int) (b : Int) = ((a ^^^ b : Nat) : Int) := by
  have hx : a ^^^ b < 2 ^ 63 := Nat.xor_lt_two_pow (by omega) (by omega)
  show IntKind.i64.wrap ((BitVec.ofInt 64 (a : Int) ^^^ BitVec.ofInt 64 (b : Int)).toNat : Int) = _
  rw [BitVec.toNat_xor, ofInt_u64 a (by omega), ofInt_u64 b (by omega), IntKind.wrap_i64]
  omega
theorem full_test (n i : Nat) : (pw n - 1).testBit i = decide (i < n) := Nat.testBit_two_pow_sub_one n i
theorem inB_full {s n : Nat} (h : s < pw n) : inB s (pw n - 1) = true := inB_iff.2 fun i hi => by rw [full_test]; exact decide_eq_true (test_lt h hi)
theorem and_full {s n : Nat} (h : s < pw n) : (pw n - 1) &&& s = s := by
  have := inB_full h
  unfold inB at this
  rw [beq_iff_eq] at this
  first | exact this | (rw [Nat.and_comm]; exact this)
/-- The drovers that are not in a set. -/
theorem dif_full {s n : Nat} (h : s < pw n) : dif (pw n - 1) s = pw n - 1 - s := by
  have h2 : pw n - 1 - s = dif (pw n - 1) s := by
    apply Nat.eq_of_testBit_eq
    intro i
    rw [dif_test, full_test]
    unfold pw
    rw [show 2 ^ n - 1 - s = 2 ^ n - (s + 1) by omega, Nat.testBit_two_pow_sub_succ h]
  exact h2.symm
theorem wsum_mono {ws : List Int} (hw : Wts ws) {a b : Nat} (h : inB a b = true) : ∀ k, k ≤ ws.length → wsum ws a k ≤ wsum ws b k := by
  intro k
  induction k with
  | zero => intro _; exact Int.le_refl _
  | succ k ih =>
    intro hk
    have h1 := ih (by omega)
    have h2 := hw k (by omega)
    rw [wsum, wsum]
    have h3 : bt a k ≤ bt b k := by
      have h4 := bt_lt a k
      rcases (show bt a k = 0 ∨ bt a k = 1 by omega) with h5 | h5
      · omega
      · have := bt_one.2 (inB_iff.1 h k (bt_one.1 h5)); omega
    have h4 := bt_lt b k
    rcases (show bt a k = 0 ∨ bt a k = 1 by have := bt_lt a k; omega) with h5 | h5 <;> rcases (show bt b k = 0 ∨ bt b k = 1 by omega) with h6 | h6 <;> rw [h5, h6] <;> omega
theorem wsum_zero (ws : List Int) : ∀ k, wsum ws 0 k = 0 := by
  intro k
  induction k with
  | zero => rfl
  | succ k ih => rw [wsum, ih]; simp [bt]
theorem game_body {q : Int} {ws : List Int} (h : BodyP q ws) : Game ws.length (winB q ws) where
  zero := by
    unfold winB
    rw [wsum_zero]
    have := h.2.2.2.1
    exact decide_eq_false (by omega)
  full := decide_eq_true h.2.2.2.2
  mono := fun a b _ _ hab ha => by
    unfold winB at *
    have h1 := of_decide_eq_true ha
    have h2 := wsum_mono h.2.2.1 hab ws.length (Nat.le_refl _)
    exact decide_eq_true (by omega)
theorem hasOne_iff {R : List Int} {s : Nat} : hasOne R s = true ↔ ∃ i, i < R.length ∧ inB (nth R i).toNat s = true := by
  unfold hasOne
  rw [List.any_eq_true]
  constructor
  · rintro ⟨x, hx, h⟩
    obtain ⟨i, hi, rfl⟩ := mem_nth hx
    exact ⟨i, hi, h⟩
  · rintro ⟨i, hi, h⟩
    exact ⟨_, nth_mem hi, h⟩
theorem game_rule {n : Nat} {R : List Int} (h : RuleP n R) : Game n (hasOne R) where
  zero := by
    cases hf : hasOne R 0
    · rfl
    · obtain ⟨i, hi, h1⟩ := hasOne_iff.1 hf
      have h2 := (h.2.2.2 i hi).1
      have := inB_le h1
      omega
  full := by
    obtain ⟨h1, h2, _⟩ := h.2.2.2 0 h.2.2.1
    exact hasOne_iff.2 ⟨0, h.2.2.1, inB_full (by omega)⟩
  mono := fun a b _ _ hab ha => by
    obtain ⟨i, hi, h1⟩ := hasOne_iff.1 ha
    exact hasOne_iff.2 ⟨i, hi, inB_trans h1 hab⟩
/-- The set of the drovers of which p says yes. -/
def setOf (p : Nat → Bool) : Nat → Nat
  | 0 => 0
  | k + 1 => setOf p k + if p k then pw k else 0
theorem setOf_lt (p : Nat → Bool) (k : Nat) : setOf p k < pw k := by
  induction k with
  | zero => simp [setOf, pw]
  | succ k ih => rw [setOf, pw_succ]; split <;> omega
theorem setOf_or (p : Nat → Bool) (k : Nat) : setOf p k ||| pw k = setOf p k + pw k := or_eq_add (by
  have := setOf_lt p k
  exact Nat.testBit_lt_two_pow this)
theorem setOf_test (p : Nat → Bool) (k i : Nat) : (setOf p k).testBit i = (decide (i < k) && p i) := by
  induction k with
  | zero => simp [setOf]
  | succ k ih =>
    rw [setOf]
    have h0 : (setOf p k).testBit k = false := Nat.testBit_lt_two_pow (setOf_lt p k)
    have e : decide (i < k + 1) = (decide (i < k) || decide (k = i)) := by rw [Bool.eq_iff_iff]; simp; omega
    cases hp : p k
    · simp only [Bool.false_eq_true, if_false, Nat.add_zero]
      rw [ih, e]
      by_cases hk : k = i
      · subst hk; simp [hp]
      · simp [hk]
    · simp only [if_true]
      rw [add_test h0, ih, e]
      by_cases hk : k = i
      · subst hk; simp [hp]
      · simp [hk]
end Go.Proofs.Ytnnndooagpkgmaa
