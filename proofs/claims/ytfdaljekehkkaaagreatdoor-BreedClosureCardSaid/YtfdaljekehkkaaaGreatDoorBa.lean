/- Layer 5: sets of beasts as numbers; their least beast and their number of beasts, by the program. -/
import Derived.Test.YtfdaljekehkkaaaGreatDoorVa
import Derived.Lib.LaidTab
namespace Go.Proofs.YtfdaljekehkkaaaGreatDoor
open Go Go.RowKit

/-- What is in a and not in b. -/
def dif (a b : Nat) : Nat := a ^^^ (a &&& b)
theorem dif_test (a b i : Nat) : (dif a b).testBit i = (a.testBit i && !(b.testBit i)) := by
  unfold dif
  rw [Nat.testBit_xor, Nat.testBit_and]
  cases a.testBit i <;> cases b.testBit i <;> rfl
theorem dif_zero {a b : Nat} : dif a b = 0 ↔ inB a b = true := by
  rw [inB_iff]
  constructor
  · intro h i hi
    have := dif_test a b i
    rw [h, hi] at this
    simpa using this
  · intro h
    apply Nat.eq_of_testBit_eq
    intro i
    rw [dif_test, Nat.zero_testBit]
    cases ha : a.testBit i
    · rfl
    · rw [h i ha]; rfl
theorem andNot_bv (a b : Nat) (ha : a < 9223372036854775808) (_hb : b < 9223372036854775808) : (BitVec.ofNat 64 a &&& ~~~ (BitVec.ofNat 64 b)).toNat = dif a b := by
  apply Nat.eq_of_testBit_eq
  intro i
  rw [BitVec.testBit_toNat, BitVec.getLsbD_and, BitVec.getLsbD_not, BitVec.getLsbD_ofNat, BitVec.getLsbD_ofNat, dif_test]
  have h2 : ∀ c, c < 9223372036854775808 → 64 ≤ i → c.testBit i = false := fun c hc hi => Nat.testBit_lt_two_pow (Nat.lt_of_lt_of_le hc (Nat.le_trans (by decide) (Nat.pow_le_pow_right (by omega) hi)))
  by_cases hi : i < 64
  · simp [hi]
  · rw [h2 a ha (by omega)]; simp
theorem dif_le (a b : Nat) : dif a b ≤ a := inB_le (inB_iff.2 fun i hi => by rw [dif_test] at hi; simp at hi; exact hi.1)
theorem i64_andNot_nat (a b : Nat) (ha : a < 9223372036854775808) (hb : b < 9223372036854775808) : bits .andNot .i64 (a : Int) (b : Int) = ((dif a b : Nat) : Int) := by
  have h1 := dif_le a b
  show IntKind.i64.wrap ((BitVec.ofInt 64 (a : Int) &&& ~~~ BitVec.ofInt 64 (b : Int)).toNat : Int) = _
  rw [BitVec.ofInt_natCast, BitVec.ofInt_natCast, andNot_bv a b ha hb, IntKind.wrap_i64]
  omega
/-- A spot's digit, in the walk's spelling. -/
theorem bt_int (s k : Nat) : ((s : Int) / (2 : Int) ^ k).tmod 2 = ((bt s k : Nat) : Int) := by
  rw [pw_int, ← Int.natCast_ediv, Int.tmod_eq_emod_of_nonneg (Int.natCast_nonneg _)]
  unfold bt
  exact (Int.natCast_emod _ _).symm

/-- The spots of a set, counted. -/
def cntF (s : Nat) : Nat → Nat
  | 0 => 0
  | k + 1 => cntF s k + bt s k
theorem cntF_len (s : Nat) : ∀ k, cntF s k = ((List.range k).filter fun i => s.testBit i).length := by
  intro k
  induction k with
  | zero => rfl
  | succ k ih =>
    rw [cntF, ih, List.range_succ, List.filter_append, List.length_append, bt_test]
    cases h : s.testBit k <;> simp [h]
theorem cntF_le (s k : Nat) : cntF s k ≤ k := by
  rw [cntF_len]
  have := List.length_filter_le (fun i => s.testBit i) (List.range k)
  rwa [List.length_range] at this
theorem cnt_zero {s m : Nat} (hs : s < pw m) (h : cntF s m = 0) : s = 0 := by
  rw [cntF_len, List.length_eq_zero_iff, List.filter_eq_nil_iff] at h
  apply Nat.eq_of_testBit_eq
  intro i
  cases hb : s.testBit i
  · simp
  · exact absurd hb (h i (List.mem_range.2 (test_lt hs hb)))
theorem full_test {m i : Nat} : (pw m - 1).testBit i = decide (i < m) := by
  unfold pw
  exact Nat.testBit_two_pow_sub_one m i
theorem cnt_full (m : Nat) : cntF (pw m - 1) m = m := by
  rw [cntF_len]
  have : (List.range m).filter (fun i => (pw m - 1).testBit i) = List.range m := by
    rw [List.filter_eq_self]
    intro i hi
    rw [full_test]
    exact decide_eq_true (List.mem_range.1 hi)
  rw [this, List.length_range]
/-- The digits of a set, ascending. -/
def bitsL (x : Nat) : List Nat := (List.range 9).filter fun i => x.testBit i
/-- The least digit. -/
def lowB (x : Nat) : Nat := ((List.range 9).find? fun i => x.testBit i).getD 9
theorem bits_step : ∀ x, x < 512 → 0 < x → bitsL x = lowB x :: bitsL (x &&& (x - 1)) ∧ lowB x < 9 ∧ (x &&& (x - 1)) < x := by decide +kernel
def tab64 : List Nat := [0, 1, 56, 2, 57, 49, 28, 3, 61, 58, 42, 50, 38, 29, 17, 4, 62, 47, 59, 36, 45, 43, 51, 22, 53, 39, 33, 30, 24, 18, 12, 5, 63, 55, 48, 27, 60, 41, 37, 16, 46, 35, 44, 21, 52, 32, 23, 11, 54, 26, 40, 15, 34, 20, 31, 10, 25, 14, 19, 9, 13, 8, 7, 6]
/-- The table of the library that tells the place of a single digit. -/
def Tab (w : World) : Prop := ∀ i, i < 64 → w.cell? ⟨1, i, none⟩ = some (.int .u8 ((tab64.getD i 0 : Nat) : Int))
theorem Tab.next {w w' : World} (h : Tab w) (hb : Below w.heap.size w w') : Tab w' := fun i hi => cellB hb (h i hi)
def spotOfBit (x : Nat) : Nat := (x &&& (18446744073709551616 - x)) * 285870213051353865 % 18446744073709551616 / 288230376151711744
theorem spot_low : ∀ x, x < 512 → 0 < x → spotOfBit x < 64 ∧ tab64.getD (spotOfBit x) 0 = lowB x := by decide +kernel
set_option maxRecDepth 100000 in
theorem tz64_any (x : Nat) (hx : x < 512) (h0 : 0 < x) (w : World) (hT : Tab w) : Calls Tryz.prog 64 #[.int .u64 (x : Nat)] w (Only (.int .i64 (lowB x : Nat)) w) := by
  obtain ⟨h1, h2⟩ := spot_low x hx h0
  have hc := hT _ h1
  rw [h2] at hc
  have hlow := (bits_step x hx h0).2.1
  have hne : ((x : Int) == 0) = false := by rw [beq_eq_false_iff_ne]; omega
  have e1 : IntKind.u64.wrap (-(x : Int)) = ((18446744073709551616 - x : Nat) : Int) := by rw [IntKind.wrap_u64]; omega
  have e2 := u64_and_nat x (18446744073709551616 - x) (by omega) (by omega)
  obtain ⟨z, hz⟩ : ∃ z, Hid (x &&& (18446744073709551616 - x) = z) := ⟨_, Lib.hid rfl⟩
  obtain ⟨u, hu⟩ : ∃ u, Hid (18446744073709551616 - x = u) := ⟨_, Lib.hid rfl⟩
  have e3 : IntKind.u64.wrap ((z : Int) * 285870213051353865) = ((z * 285870213051353865 % 18446744073709551616 : Nat) : Int) := by rw [IntKind.wrap_u64]; omega
  obtain ⟨y, hy⟩ : ∃ y, Hid (z * 285870213051353865 % 18446744073709551616 = y) := ⟨_, Lib.hid rfl⟩
  have e4 : ((y : Nat) : Int) / 288230376151711744 = ((y / 288230376151711744 : Nat) : Int) := by omega
  obtain ⟨k, hk⟩ : ∃ k, Hid (y / 288230376151711744 = k) := ⟨_, Lib.hid rfl⟩
  have hk2 : spotOfBit x = k := by unfold spotOfBit; rw [hz.out, hy.out, hk.out]
  rw [hu.out] at e1
  rw [hz.out, hu.out] at e2
  rw [hy.out] at e3
  rw [hk.out] at e4
  rw [hk2] at hc h1
  clear h2 hk2 hT
  generalize lowB x = b at *
  go_enter Tryz.func64, Tryz.ntmps64
  go_wp2
  go_ret
  exact Only.mk (by first | rfl | simp; done)
theorem tz_any (x : Nat) (hx : x < 512) (h0 : 0 < x) (w : World) (hT : Tab w) : Calls Tryz.prog 55 #[.int .u64 (x : Nat)] w (Only (.int .i64 (lowB x : Nat)) w) := by
  have K := Lib.hid (tz64_any x hx h0 w hT)
  clear hT
  go_enter Tryz.func55, Tryz.ntmps55
  go_wp2_with (go_at_call 64; refine K.out.mono ?_; rintro e w1 ⟨rfl, rfl⟩)
  go_ret
  exact Only.mk rfl
def o1 (x : Nat) : Nat := (x / 2 &&& 6148914691236517205) + (x &&& 6148914691236517205)
def o2 (x : Nat) : Nat := (x / 4 &&& 3689348814741910323) + (x &&& 3689348814741910323)
def o3 (x : Nat) : Nat := (x / 16 + x) &&& 1085102592571150095
def o4 (x : Nat) : Nat := x + x / 256
def o5 (x : Nat) : Nat := x + x / 65536
def o6 (x : Nat) : Nat := x + x / 4294967296
theorem o_count : ∀ x, x < 512 → o6 (o5 (o4 (o3 (o2 (o1 x))))) &&& 127 = cntF x 9 := by decide +kernel
theorem o1_le (x : Nat) : o1 x ≤ 2 * x := by have := Nat.and_le_left (n := x / 2) (m := 6148914691236517205); have := Nat.and_le_left (n := x) (m := 6148914691236517205); unfold o1; omega
theorem o2_le (x : Nat) : o2 x ≤ 2 * x := by have := Nat.and_le_left (n := x / 4) (m := 3689348814741910323); have := Nat.and_le_left (n := x) (m := 3689348814741910323); unfold o2; omega
theorem o3_le (x : Nat) : o3 x ≤ 2 * x := by have := Nat.and_le_left (n := x / 16 + x) (m := 1085102592571150095); unfold o3; omega
theorem o4_le (x : Nat) : o4 x ≤ 2 * x := by unfold o4; omega
theorem o5_le (x : Nat) : o5 x ≤ 2 * x := by unfold o5; omega
theorem o6_le (x : Nat) : o6 x ≤ 2 * x := by unfold o6; omega
theorem u64_div (x k : Nat) : ((x : Int) / (k : Int)) = ((x / k : Nat) : Int) := (Int.natCast_ediv x k).symm
theorem u64_add (a b : Nat) (h : a + b < 1000000) : IntKind.u64.wrap ((a : Int) + (b : Int)) = ((a + b : Nat) : Int) := by rw [IntKind.wrap_u64]; omega
set_option maxRecDepth 100000 in
set_option maxHeartbeats 2000000 in
theorem ones64_any (x : Nat) (hx : x < 512) (w : World) : Calls Tryz.prog 59 #[.int .u64 (x : Nat)] w (Only (.int .i64 (cntF x 9 : Nat)) w) := by
  have hfin := o_count x hx
  have l1 := o1_le x
  have l2 := o2_le (o1 x)
  have l3 := o3_le (o2 (o1 x))
  have l4 := o4_le (o3 (o2 (o1 x)))
  have l5 := o5_le (o4 (o3 (o2 (o1 x))))
  have l6 := o6_le (o5 (o4 (o3 (o2 (o1 x)))))
  -- the first line
  have a1 : (x : Int) / 2 = ((x / 2 : Nat) : Int) := u64_div x 2
  have a2 : bits .and .u64 ((x / 2 : Nat) : Int) 6148914691236517205 = ((x / 2 &&& 6148914691236517205 : Nat) : Int) := u64_and_nat (x / 2) 6148914691236517205 (by omega) (by omega)
  have a3 : bits .and .u64 (x : Int) 6148914691236517205 = ((x &&& 6148914691236517205 : Nat) : Int) := u64_and_nat x 6148914691236517205 (by omega) (by omega)
  have a4 : IntKind.u64.wrap (((x / 2 &&& 6148914691236517205 : Nat) : Int) + ((x &&& 6148914691236517205 : Nat) : Int)) = ((o1 x : Nat) : Int) := u64_add _ _ (by unfold o1 at l1; omega)
  obtain ⟨y1, h1⟩ : ∃ y, Hid (o1 x = y) := ⟨_, Lib.hid rfl⟩
  rw [h1.out] at l1 l2 l3 l4 l5 l6 a4 hfin
  generalize x / 2 &&& 6148914691236517205 = u1 at *
  generalize x &&& 6148914691236517205 = v1 at *
  generalize x / 2 = d1 at *
  have b1' : (y1 : Int) / 4 = ((y1 / 4 : Nat) : Int) := u64_div y1 4
  have b2' : bits .and .u64 ((y1 / 4 : Nat) : Int) 3689348814741910323 = ((y1 / 4 &&& 3689348814741910323 : Nat) : Int) := u64_and_nat (y1 / 4) 3689348814741910323 (by omega) (by omega)
  have b3' : bits .and .u64 (y1 : Int) 3689348814741910323 = ((y1 &&& 3689348814741910323 : Nat) : Int) := u64_and_nat y1 3689348814741910323 (by omega) (by omega)
  have b4' : IntKind.u64.wrap (((y1 / 4 &&& 3689348814741910323 : Nat) : Int) + ((y1 &&& 3689348814741910323 : Nat) : Int)) = ((o2 y1 : Nat) : Int) := u64_add _ _ (by unfold o2 at l2; omega)
  obtain ⟨y2, h2⟩ : ∃ y, Hid (o2 y1 = y) := ⟨_, Lib.hid rfl⟩
  rw [h2.out] at l2 l3 l4 l5 l6 b4' hfin
  generalize y1 / 4 &&& 3689348814741910323 = u2 at *
  generalize y1 &&& 3689348814741910323 = v2 at *
  generalize y1 / 4 = d2 at *
  have c1 : (y2 : Int) / 16 = ((y2 / 16 : Nat) : Int) := u64_div y2 16
  have c2 : IntKind.u64.wrap (((y2 / 16 : Nat) : Int) + (y2 : Int)) = ((y2 / 16 + y2 : Nat) : Int) := u64_add _ _ (by omega)
  have c3 : bits .and .u64 ((y2 / 16 + y2 : Nat) : Int) 1085102592571150095 = ((o3 y2 : Nat) : Int) := u64_and_nat (y2 / 16 + y2) 1085102592571150095 (by omega) (by omega)
  obtain ⟨y3, h3⟩ : ∃ y, Hid (o3 y2 = y) := ⟨_, Lib.hid rfl⟩
  rw [h3.out] at l3 l4 l5 l6 c3 hfin
  obtain ⟨s2, hs2⟩ : ∃ y, Hid (y2 / 16 + y2 = y) := ⟨_, Lib.hid rfl⟩
  rw [hs2.out] at c2 c3
  generalize y2 / 16 = d3 at *
  have e1 : (y3 : Int) / 256 = ((y3 / 256 : Nat) : Int) := u64_div y3 256
  have e2 : IntKind.u64.wrap ((y3 : Int) + ((y3 / 256 : Nat) : Int)) = ((o4 y3 : Nat) : Int) := u64_add _ _ (by omega)
  obtain ⟨y4, h4⟩ : ∃ y, Hid (o4 y3 = y) := ⟨_, Lib.hid rfl⟩
  rw [h4.out] at l4 l5 l6 e2 hfin
  generalize y3 / 256 = d4 at *
  have f1 : (y4 : Int) / 65536 = ((y4 / 65536 : Nat) : Int) := u64_div y4 65536
  have f2 : IntKind.u64.wrap ((y4 : Int) + ((y4 / 65536 : Nat) : Int)) = ((o5 y4 : Nat) : Int) := u64_add _ _ (by omega)
  obtain ⟨y5, h5⟩ : ∃ y, Hid (o5 y4 = y) := ⟨_, Lib.hid rfl⟩
  rw [h5.out] at l5 l6 f2 hfin
  generalize y4 / 65536 = d5 at *
  have g1 : (y5 : Int) / 4294967296 = ((y5 / 4294967296 : Nat) : Int) := u64_div y5 4294967296
  have g2 : IntKind.u64.wrap ((y5 : Int) + ((y5 / 4294967296 : Nat) : Int)) = ((o6 y5 : Nat) : Int) := u64_add _ _ (by omega)
  obtain ⟨y6, h6⟩ : ∃ y, Hid (o6 y5 = y) := ⟨_, Lib.hid rfl⟩
  rw [h6.out] at l6 g2 hfin
  generalize y5 / 4294967296 = d6 at *
  have k1 : IntKind.i64.wrap (y6 : Int) = (y6 : Int) := IntWalk.i64_in _ (by omega)
  have k2 : bits .and .i64 (y6 : Int) 127 = ((y6 &&& 127 : Nat) : Int) := i64_and_nat y6 127 (by omega) (by omega)
  rw [hfin] at k2
  clear l1 l2 l3 l4 l5 l6 hfin
  generalize cntF x 9 = r at *
  go_enter Tryz.func59, Tryz.ntmps59
  go_wp2
  go_ret
  exact Only.mk (by first | rfl | simp; done)
theorem ones_any (x : Nat) (hx : x < 512) (w : World) : Calls Tryz.prog 47 #[.int .u64 (x : Nat)] w (Only (.int .i64 (cntF x 9 : Nat)) w) := by
  have K := Lib.hid (ones64_any x hx w)
  go_enter Tryz.func47, Tryz.ntmps47
  go_wp2_with (go_at_call 59; refine K.out.mono ?_; rintro e w1 ⟨rfl, rfl⟩)
  go_ret
  exact Only.mk rfl
theorem Blk.setA {W : World} {B i : Nat} {t : TypeId} {cs : Array Value} (h : Blk W B t cs) (v : Value) : Blk (W.setCell ⟨B, i, none⟩ v) B t (cs.setIfInBounds i v) := by
  unfold Blk at *
  have hlt := (Array.getElem?_eq_some_iff.1 h).1
  have h' : W.heap[B] = .cells cs t (0, 0) := by simpa [Array.getElem?_eq_getElem hlt] using h
  show (W.heap.modify B _)[B]? = _
  rw [Array.getElem?_eq_getElem (by simpa using hlt), Array.getElem_modify_self, h']
  simp
theorem Blk.set2 {W : World} {B : Nat} {t : TypeId} {x y : Value} (h : Blk W B t #[x, y]) (u v : Value) : Blk ((W.setCell ⟨B, 0, none⟩ u).setCell ⟨B, 1, none⟩ v) B t #[u, v] := (h.setA u).setA v
theorem wrap_shl {k : Nat} (h : k < 40) : IntKind.i64.wrap ((2 : Int) ^ k) = ((pw k : Nat) : Int) := by rw [pw_int]; exact wrap_pw h
end Go.Proofs.YtfdaljekehkkaaaGreatDoor
