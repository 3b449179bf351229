/- Layer 3, by the specification: both. -/
import Derived.Test.YtnnndooagpkgmaaWr
namespace Go.Proofs.Ytnnndooagpkgmaa
open Go Go.RowKit

/-- Two bits for each of the first k drovers: in how many of two sets they are. -/
def twoM (a b : Nat) : Nat → Nat
  | 0 => 0
  | k + 1 => twoM a b k + (bt a k + bt b k) * 4 ^ k
theorem twoM_lt (a b k : Nat) : twoM a b k < 4 ^ k := by
  induction k with
  | zero => simp [twoM]
  | succ k ih =>
    have h1 := bt_lt a k
    have h2 := bt_lt b k
    have h3 : (bt a k + bt b k) * 4 ^ k ≤ 2 * 4 ^ k := Nat.mul_le_mul_right _ (by omega)
    rw [twoM, Nat.pow_succ]
    omega
theorem twoM_eq {a b c d : Nat} {k : Nat} (h : twoM a b k = twoM c d k) : ∀ i, i < k → bt a i + bt b i = bt c i + bt d i := by
  induction k with
  | zero => intro i hi; omega
  | succ k ih =>
    rw [twoM, twoM] at h
    have h1 := twoM_lt a b k
    have h2 := twoM_lt c d k
    have hp : 0 < 4 ^ k := Nat.pow_pos (by omega)
    generalize 4 ^ k = P at *
    have h3 : bt a k + bt b k = bt c k + bt d k := by
      rcases Nat.lt_trichotomy (bt a k + bt b k) (bt c k + bt d k) with e | e | e
      · have := Nat.mul_le_mul_right P (show bt a k + bt b k + 1 ≤ bt c k + bt d k from e)
        rw [Nat.add_mul] at this
        omega
      · exact e
      · have := Nat.mul_le_mul_right P (show bt c k + bt d k + 1 ≤ bt a k + bt b k from e)
        rw [Nat.add_mul] at this
        omega
    rw [h3] at h
    have h4 : twoM a b k = twoM c d k := by omega
    intro i hi
    by_cases e : i = k
    · subst e; exact h3
    · exact ih h4 i (by omega)
theorem twoM_congr {a b c d : Nat} {k : Nat} (h : ∀ i, i < k → bt a i + bt b i = bt c i + bt d i) : twoM a b k = twoM c d k := by
  induction k with
  | zero => rfl
  | succ k ih => rw [twoM, twoM, ih (fun i hi => h i (by omega)), h k (by omega)]
theorem twoM_trade {a b c d n : Nat} (ha : a < pw n) (hb : b < pw n) (hc : c < pw n) (hd : d < pw n) (hn : n ≤ 5) : (twoM a b 5 == twoM c d 5) = ((a &&& b == c &&& d) && (a ||| b == c ||| d)) := by
  have hz : ∀ {s i : Nat}, s < pw n → 5 ≤ i → s.testBit i = false := fun hs hi => Nat.testBit_lt_two_pow (Nat.lt_of_lt_of_le hs (pw_mono (by omega)))
  rw [Bool.eq_iff_iff, Bool.and_eq_true, beq_iff_eq, beq_iff_eq, beq_iff_eq]
  constructor
  · intro h
    have h1 := twoM_eq h
    have h2 : ∀ i, (a.testBit i && b.testBit i) = (c.testBit i && d.testBit i) ∧ (a.testBit i || b.testBit i) = (c.testBit i || d.testBit i) := by
      intro i
      by_cases hi : i < 5
      · have := h1 i hi
        rw [bt_test, bt_test, bt_test, bt_test] at this
        revert this
        cases a.testBit i <;> cases b.testBit i <;> cases c.testBit i <;> cases d.testBit i <;> simp
      · rw [hz ha (by omega), hz hb (by omega), hz hc (by omega), hz hd (by omega)]
        exact ⟨rfl, rfl⟩
    exact ⟨Nat.eq_of_testBit_eq fun i => by rw [Nat.testBit_and, Nat.testBit_and]; exact (h2 i).1, Nat.eq_of_testBit_eq fun i => by rw [Nat.testBit_or, Nat.testBit_or]; exact (h2 i).2⟩
  · rintro ⟨h1, h2⟩
    refine twoM_congr fun i _ => ?_
    have e1 := congrArg (fun s => s.testBit i) h1
    have e2 := congrArg (fun s => s.testBit i) h2
    simp only [Nat.testBit_and, Nat.testBit_or] at e1 e2
    rw [bt_test, bt_test, bt_test, bt_test]
    revert e1 e2
    cases a.testBit i <;> cases b.testBit i <;> cases c.testBit i <;> cases d.testBit i <;> simp
theorem two_fit (t R P : Nat) (h : t < P) (hP : P ≤ 1024) (hR : R ≤ 2 * P) : IntKind.i64.wrap ((t : Int) + (R : Int)) = ((t + R : Nat) : Int) := by
  rw [IntWalk.i64_in _ (by omega)]; omega
theorem two_fit2 (R P : Nat) (hP : P ≤ 1024) (hR : R ≤ 2 * P) : IntKind.i64.wrap (R : Int) = (R : Int) ∧ wrap64 (R : Int) = (R : Int) :=
  ⟨IntWalk.i64_in _ (by omega), IntWalk.wrap64_in _ ⟨by omega, by omega⟩⟩
set_option maxRecDepth 100000 in
set_option maxHeartbeats 1600000 in
theorem both_any (a b : Nat) (w : World) (_ha : a < 65536) (_hb : b < 65536) :
    Calls Try.prog 77 #[.int .i64 (a : Nat), .int .i64 (b : Nat)] w (Ret (.int .i64 ((twoM a b 5 : Nat) : Int)) w) := by
  have hst := Lib.hid (fun k => (show twoM a b (k + 1) = twoM a b k + (bt a k + bt b k) * 4 ^ k from rfl))
  have hlt := Lib.hid (fun k => twoM_lt a b k)
  have h0 : Hid (twoM a b 0 = 0) := Lib.hid rfl
  have h4 : Hid (∀ k, k ≤ 5 → (4 : Nat) ^ k ≤ 1024) := Lib.hid (fun k hk => by have := Nat.pow_le_pow_right (n := 4) (by omega) hk; omega)
  have ha2 := Lib.hid (fun k => bt_lt a k)
  have hb2 := Lib.hid (fun k => bt_lt b k)
  have ba := Lib.hid (fun k => bt_int a k)
  have bb := Lib.hid (fun k => bt_int b k)
  go_enter Try.func77, Try.ntmps77
  go_wp2
  go_loopw [5, 6] (fun o i wr => ∃ k : Nat, k ≤ 5 ∧ i = .int .i64 k ∧ o = .int .i64 ((twoM a b k : Nat) : Int) ∧ Below w.heap.size w wr) (fun _ i _ => 5 - (intOf i).toNat)
  case atStart => exact ⟨0, by omega, rfl, by rw [h0.out]; rfl, Below.refl _ _⟩
  case round =>
    obtain ⟨k, hk, rfl, rfl, B1⟩ := hrel
    have e1 := Lib.hid (hst.out k)
    have e2 := hlt.out k
    have e3 := h4.out k hk
    have e4 := ha2.out k
    have e5 := hb2.out k
    have e6 := ba.out k
    have e7 := bb.out k
    by_cases hk5 : k < 5
    · have hki : (k : Int) < 5 := by omega
      have hpow : (2 : Int) ^ (2 * k) = ((4 ^ k : Nat) : Int) := by rw [Int.pow_mul]; simp
      obtain ⟨u, hu⟩ : ∃ u : Nat, 2 * k = u := ⟨_, rfl⟩
      have m0 : 2 * (k : Int) = (u : Int) := by omega
      have m1 : IntKind.i64.wrap (u : Int) = (u : Int) := IntWalk.i64_in _ (by omega)
      have m2 : u < 64 := by omega
      rw [hu] at hpow
      clear hu
      generalize twoM a b k = t at *
      generalize bt a k = x at *
      generalize bt b k = y at *
      generalize (4 : Nat) ^ k = P at *
      have hpr : (x + y) * P ≤ 2 * P := Nat.mul_le_mul_right _ (by omega)
      obtain ⟨z, hz⟩ : ∃ z : Nat, x + y = z := ⟨_, rfl⟩
      have z1 : (x : Int) + (y : Int) = (z : Int) := by omega
      have z2 : z ≤ 2 := by omega
      have z3 : IntKind.i64.wrap (z : Int) = (z : Int) := IntWalk.i64_in _ (by omega)
      rw [hz] at hpr e1
      clear hz
      have hmul2 : (z : Int) * (P : Int) = ((z * P : Nat) : Int) := (Int.natCast_mul _ _).symm
      obtain ⟨R, hR⟩ : ∃ R, z * P = R := ⟨_, rfl⟩
      rw [hR] at hmul2 hpr e1
      clear hR
      have hR1 := (two_fit2 R P e3 hpr).1
      have hR2 := (two_fit2 R P e3 hpr).2
      have hadd := two_fit t R P e2 e3 hpr
      clear e2 e3 hpr
      go_wp2
      refine wp_region_ext (by kernel_rfl) (by kernel_rfl) ?_
      repeat (go_big_quiet_step (fail))
      refine wpQuiet_nil ?_
      rintro ⟨w7, hw7⟩
      dsimp only
      go_wp2
      go_roundw
      case rel => exact ⟨k + 1, by omega, by go_num, by rw [e1.out]; go_num, nextB B1 hw7⟩
      case measure => simp [intOf]; omega
    · obtain rfl : k = 5 := by omega
      go_wp2
      go_ret
      exact Ret.mk rfl B1
end Go.Proofs.Ytnnndooagpkgmaa
