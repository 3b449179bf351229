/- Layer 4, by the program: a set of spots as a number: the free spots, counted and listed. -/
import Derived.Test.YtbdhceolchhnjaaDoorAd
import Derived.Lib.LaidTab
namespace Go.Proofs.YtbdhceolchhnjaaDoor
open Go Go.RowKit

/-- What is in a and not in b. -/
def dif (a b : Nat) : Nat := a ^^^ (a &&& b)
theorem dif_test (a b i : Nat) : (dif a b).testBit i = (a.testBit i && !(b.testBit i)) := by
  unfold dif
  rw [Nat.testBit_xor, Nat.testBit_and]
  cases a.testBit i <;> cases b.testBit i <;> rfl
theorem dif_zero {a b : Nat} : dif a b = 0 ↔ inB a b = true := by
  rw [inB_iff]
  constructor
  · intro h i hi
    have := dif_test a b i
    rw [h, hi] at this
    simpa using this
  · intro h
    apply Nat.eq_of_testBit_eq
    intro i
    rw [dif_test, Nat.zero_testBit]
    cases ha : a.testBit i
    · rfl
    · rw [h i ha]; rfl
theorem andNot_bv (a b : Nat) (ha : a < 9223372036854775808) (_hb : b < 9223372036854775808) : (BitVec.ofNat 64 a &&& ~~~ (BitVec.ofNat 64 b)).toNat = dif a b := by
  apply Nat.eq_of_testBit_eq
  intro i
  rw [BitVec.testBit_toNat, BitVec.getLsbD_and, BitVec.getLsbD_not, BitVec.getLsbD_ofNat, BitVec.getLsbD_ofNat, dif_test]
  have h2 : ∀ c, c < 9223372036854775808 → 64 ≤ i → c.testBit i = false := fun c hc hi => Nat.testBit_lt_two_pow (Nat.lt_of_lt_of_le hc (Nat.le_trans (by decide) (Nat.pow_le_pow_right (by omega) hi)))
  by_cases hi : i < 64
  · simp [hi]
  · rw [h2 a ha (by omega)]; simp
theorem dif_le (a b : Nat) : dif a b ≤ a := inB_le (inB_iff.2 fun i hi => by rw [dif_test] at hi; simp at hi; exact hi.1)
theorem i64_andNot_nat (a b : Nat) (ha : a < 9223372036854775808) (hb : b < 9223372036854775808) : bits .andNot .i64 (a : Int) (b : Int) = ((dif a b : Nat) : Int) := by
  have h1 := dif_le a b
  show IntKind.i64.wrap ((BitVec.ofInt 64 (a : Int) &&& ~~~ BitVec.ofInt 64 (b : Int)).toNat : Int) = _
  rw [BitVec.ofInt_natCast, BitVec.ofInt_natCast, andNot_bv a b ha hb, IntKind.wrap_i64]
  omega
/-- A spot's digit, in the walk's spelling. -/
theorem bt_int (s k : Nat) : ((s : Int) / (2 : Int) ^ k).tmod 2 = ((bt s k : Nat) : Int) := by
  rw [pw_int, ← Int.natCast_ediv, Int.tmod_eq_emod_of_nonneg (Int.natCast_nonneg _)]
  unfold bt
  exact (Int.natCast_emod _ _).symm

/-- The set of the free spots. -/
def frS (m w d : Nat) : Nat := dif (pw m - 1) (w ||| d)
theorem frS_test (m w d i : Nat) : (frS m w d).testBit i = (decide (i < m) && frB w d i) := by
  unfold frS frB
  rw [dif_test, full_test, Nat.testBit_or, Bool.not_or]
theorem frS_lt {m : Nat} (hm : m ≤ 9) (w d : Nat) : frS m w d < 512 := by
  have := dif_le (pw m - 1) (w ||| d)
  have h2 := pw_mono hm
  have h3 := pw_pos m
  have h4 : pw 9 = 512 := rfl
  unfold frS
  omega
/-- The digits of a set, ascending. -/
def bitsL (x : Nat) : List Nat := (List.range 9).filter fun i => x.testBit i
/-- The least digit. -/
def lowB (x : Nat) : Nat := ((List.range 9).find? fun i => x.testBit i).getD 9
theorem frL_bits {m : Nat} (hm : m ≤ 9) (w d : Nat) : frL m w d = bitsL (frS m w d) := by
  unfold frL bitsL
  have e : List.range 9 = List.range m ++ (List.range' m (9 - m)) := by
    rw [List.range_eq_range', List.range_eq_range']
    rw [show (9 : Nat) = m + (9 - m) by omega, ← List.range'_append_1]
    simp
  rw [e, List.filter_append]
  have h2 : (List.range' m (9 - m)).filter (fun i => (frS m w d).testBit i) = [] := by
    rw [List.filter_eq_nil_iff]
    intro i hi
    rw [List.mem_range'_1] at hi
    rw [frS_test, decide_eq_false (by omega)]; simp
  rw [h2, List.append_nil]
  apply List.filter_congr
  intro i hi
  rw [frS_test, decide_eq_true (List.mem_range.1 hi)]; rfl
theorem bits_step : ∀ x, x < 512 → 0 < x → bitsL x = lowB x :: bitsL (x &&& (x - 1)) ∧ lowB x < 9 ∧ (x &&& (x - 1)) < x := by decide +kernel
def tab64 : List Nat := [0, 1, 56, 2, 57, 49, 28, 3, 61, 58, 42, 50, 38, 29, 17, 4, 62, 47, 59, 36, 45, 43, 51, 22, 53, 39, 33, 30, 24, 18, 12, 5, 63, 55, 48, 27, 60, 41, 37, 16, 46, 35, 44, 21, 52, 32, 23, 11, 54, 26, 40, 15, 34, 20, 31, 10, 25, 14, 19, 9, 13, 8, 7, 6]
/-- The table of the library that tells the place of a single digit. -/
def Tab (w : World) : Prop := ∀ i, i < 64 → w.cell? ⟨1, i, none⟩ = some (.int .u8 ((tab64.getD i 0 : Nat) : Int))
theorem Tab.next {w w' : World} (h : Tab w) (hb : Below w.heap.size w w') : Tab w' := fun i hi => cellB hb (h i hi)
def spotOfBit (x : Nat) : Nat := (x &&& (18446744073709551616 - x)) * 285870213051353865 % 18446744073709551616 / 288230376151711744
theorem spot_low : ∀ x, x < 512 → 0 < x → spotOfBit x < 64 ∧ tab64.getD (spotOfBit x) 0 = lowB x := by decide +kernel
set_option maxRecDepth 100000 in
theorem tz64_any (x : Nat) (hx : x < 512) (h0 : 0 < x) (w : World) (hT : Tab w) : Calls Tryd.prog 94 #[.int .u64 (x : Nat)] w (Only (.int .i64 (lowB x : Nat)) w) := by
  obtain ⟨h1, h2⟩ := spot_low x hx h0
  have hc := hT _ h1
  rw [h2] at hc
  have hlow := (bits_step x hx h0).2.1
  have hne : ((x : Int) == 0) = false := by rw [beq_eq_false_iff_ne]; omega
  have e1 : IntKind.u64.wrap (-(x : Int)) = ((18446744073709551616 - x : Nat) : Int) := by rw [IntKind.wrap_u64]; omega
  have e2 := u64_and_nat x (18446744073709551616 - x) (by omega) (by omega)
  obtain ⟨z, hz⟩ : ∃ z, Hid (x &&& (18446744073709551616 - x) = z) := ⟨_, Lib.hid rfl⟩
  obtain ⟨u, hu⟩ : ∃ u, Hid (18446744073709551616 - x = u) := ⟨_, Lib.hid rfl⟩
  have e3 : IntKind.u64.wrap ((z : Int) * 285870213051353865) = ((z * 285870213051353865 % 18446744073709551616 : Nat) : Int) := by rw [IntKind.wrap_u64]; omega
  obtain ⟨y, hy⟩ : ∃ y, Hid (z * 285870213051353865 % 18446744073709551616 = y) := ⟨_, Lib.hid rfl⟩
  have e4 : ((y : Nat) : Int) / 288230376151711744 = ((y / 288230376151711744 : Nat) : Int) := by omega
  obtain ⟨k, hk⟩ : ∃ k, Hid (y / 288230376151711744 = k) := ⟨_, Lib.hid rfl⟩
  have hk2 : spotOfBit x = k := by unfold spotOfBit; rw [hz.out, hy.out, hk.out]
  rw [hu.out] at e1
  rw [hz.out, hu.out] at e2
  rw [hy.out] at e3
  rw [hk.out] at e4
  rw [hk2] at hc h1
  clear h2 hk2 hT
  generalize lowB x = b at *
  go_enter Tryd.func94, Tryd.ntmps94
  go_wp2
  go_ret
  exact Only.mk (by first | rfl | simp; done)
theorem tz_any (x : Nat) (hx : x < 512) (h0 : 0 < x) (w : World) (hT : Tab w) : Calls Tryd.prog 73 #[.int .u64 (x : Nat)] w (Only (.int .i64 (lowB x : Nat)) w) := by
  have K := Lib.hid (tz64_any x hx h0 w hT)
  clear hT
  go_enter Tryd.func73, Tryd.ntmps73
  go_wp2_with (go_at_call 94; refine K.out.mono ?_; rintro e w1 ⟨rfl, rfl⟩)
  go_ret
  exact Only.mk rfl
end Go.Proofs.YtbdhceolchhnjaaDoor
