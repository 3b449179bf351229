/- Layer 7, the laws: products in halves; beyond the golden ratio. -/
import Derived.Test.YtdafpjapepfniaaWx
namespace Go.Proofs.Ytdafpjapepfniaa
set_option linter.unusedSimpArgs false
set_option linter.unusedVariables false
open Go Go.RowKit

theorem halves (ah al bh bl : Nat) : (ah * 1048576 + al) * (bh * 1048576 + bl) = (ah * bh) * 1099511627776 + (ah * bl + al * bh) * 1048576 + al * bl := by
  have e : (ah * 1048576 + al) * (bh * 1048576 + bl) = ah * bh * (1048576 * 1048576) + (ah * bl + al * bh) * 1048576 + al * bl := by
    rw [Nat.add_mul, Nat.mul_add, Nat.mul_add, Nat.add_mul]
    have h1 : ah * 1048576 * (bh * 1048576) = ah * bh * (1048576 * 1048576) := by rw [Nat.mul_mul_mul_comm]
    have h2 : ah * 1048576 * bl = ah * bl * 1048576 := by rw [Nat.mul_right_comm]
    have h3 : al * (bh * 1048576) = al * bh * 1048576 := by rw [Nat.mul_assoc]
    omega
  exact e
theorem mul_le_of {a b A B : Nat} (h1 : a ≤ A) (h2 : b ≤ B) : a * b ≤ A * B := Nat.mul_le_mul h1 h2
set_option maxRecDepth 100000 in
set_option maxHeartbeats 2000000 in
theorem product_any (a b : Nat) (w : World) (ha : a ≤ 1099511627776) (hb : b ≤ 1099511627776) :
    Calls Try.prog 71 #[.int .i64 (a : Int), .int .i64 (b : Int)] w (Only (.tuple #[.int .i64 ((a * b / 1099511627776 : Nat) : Int), .int .i64 ((a * b % 1099511627776 : Nat) : Int)]) w) := by
  obtain ⟨ah, hah⟩ : ∃ ah, ah = a / 1048576 := ⟨_, rfl⟩
  obtain ⟨al, hal⟩ : ∃ al, al = a % 1048576 := ⟨_, rfl⟩
  obtain ⟨bh, hbh⟩ : ∃ bh, bh = b / 1048576 := ⟨_, rfl⟩
  obtain ⟨bl, hbl⟩ : ∃ bl, bl = b % 1048576 := ⟨_, rfl⟩
  have e1 : (a : Int) / 1048576 = (ah : Int) := by omega
  have e2 : (a : Int) % 1048576 = (al : Int) := by omega
  have e3 : (b : Int) / 1048576 = (bh : Int) := by omega
  have e4 : (b : Int) % 1048576 = (bl : Int) := by omega
  have g1 : ah ≤ 1048576 := by omega
  have g2 : al ≤ 1048576 := by omega
  have g3 : bh ≤ 1048576 := by omega
  have g4 : bl ≤ 1048576 := by omega
  have hab := halves ah al bh bl
  rw [show ah * 1048576 + al = a by omega, show bh * 1048576 + bl = b by omega] at hab
  have m1 := mul_le_of g1 g4
  have m2 := mul_le_of g2 g3
  have m3 := mul_le_of g2 g4
  have m4 := mul_le_of g1 g3
  obtain ⟨p1, hp1⟩ : ∃ p, p = ah * bl := ⟨_, rfl⟩
  obtain ⟨p2, hp2⟩ : ∃ p, p = al * bh := ⟨_, rfl⟩
  obtain ⟨p3, hp3⟩ : ∃ p, p = al * bl := ⟨_, rfl⟩
  obtain ⟨p4, hp4⟩ : ∃ p, p = ah * bh := ⟨_, rfl⟩
  have f1 : (ah : Int) * (bl : Int) = (p1 : Int) := by rw [hp1]; exact (Int.natCast_mul ah bl).symm
  have f2 : (al : Int) * (bh : Int) = (p2 : Int) := by rw [hp2]; exact (Int.natCast_mul al bh).symm
  have f3 : (al : Int) * (bl : Int) = (p3 : Int) := by rw [hp3]; exact (Int.natCast_mul al bl).symm
  have f4 : (ah : Int) * (bh : Int) = (p4 : Int) := by rw [hp4]; exact (Int.natCast_mul ah bh).symm
  rw [← hp1] at m1 hab
  rw [← hp2] at m2 hab
  rw [← hp3] at m3 hab
  rw [← hp4] at m4 hab
  clear hah hal hbh hbl g1 g2 g3 g4 hp1 hp2 hp3 hp4
  generalize a * b = ab at *
  go_enter Try.func71, Try.ntmps71
  have r1 : (p4 : Int) + ((p1 : Int) + p2) / 1048576 + ((p3 : Int) + ((p1 : Int) + p2) % 1048576 * 1048576) / 1099511627776 = ((ab / 1099511627776 : Nat) : Int) := by omega
  have r2 : ((p3 : Int) + ((p1 : Int) + p2) % 1048576 * 1048576) % 1099511627776 = ((ab % 1099511627776 : Nat) : Int) := by omega
  replace r1 := Lib.hid r1
  replace r2 := Lib.hid r2
  go_wp2
  go_ret2
  refine Only.mk ?_
  show Value.tuple #[.int .i64 ((p4 : Int) + ((p1 : Int) + p2) / 1048576 + ((p3 : Int) + ((p1 : Int) + p2) % 1048576 * 1048576) / 1099511627776), .int .i64 (((p3 : Int) + ((p1 : Int) + p2) % 1048576 * 1048576) % 1099511627776)] = _
  rw [r1.out, r2.out]
set_option maxRecDepth 100000 in
set_option maxHeartbeats 2000000 in
theorem beyond_any (x y : Nat) (w : World) (hx : x ≤ 1099511627776) (hy : y ≤ x) :
    Calls Try.prog 40 #[.int .i64 (x : Int), .int .i64 (y : Int)] w (Only (.bool (decide (x * y + y * y < x * x))) w) := by
  have e : (x : Int) - (y : Int) = ((x - y : Nat) : Int) := by omega
  have P1 := Lib.hid (fun W => product_any x (x - y) W hx (by omega))
  have P2 := Lib.hid (fun W => product_any y y W (by omega) (by omega))
  have hxy : x * (x - y) + x * y = x * x := by rw [← Nat.mul_add, show x - y + y = x by omega]
  have hd : decide (x * y + y * y < x * x) = decide (y * y < x * (x - y)) := decide_eq_decide.2 (by omega)
  rw [hd]
  clear hd hxy
  have m1 := mul_le_of hx (show x - y ≤ 1099511627776 by omega)
  have m2 := mul_le_of (show y ≤ 1099511627776 by omega) (show y ≤ 1099511627776 by omega)
  generalize x * (x - y) = s at *
  generalize y * y = t at *
  have q1 : s / 1099511627776 ≤ 1099511627776 := by omega
  have q2 : t / 1099511627776 ≤ 1099511627776 := by omega
  have q3 : s % 1099511627776 < 1099511627776 := by omega
  have q4 : t % 1099511627776 < 1099511627776 := by omega
  have hd : Hid (decide (t < s) = (decide (t / 1099511627776 < s / 1099511627776) || (decide (s / 1099511627776 = t / 1099511627776) && decide (t % 1099511627776 < s % 1099511627776)))) := Lib.hid (by
    rw [Bool.eq_iff_iff]
    simp only [Bool.or_eq_true, Bool.and_eq_true, decide_eq_true_eq]
    omega)
  generalize s / 1099511627776 = s1 at *
  generalize t / 1099511627776 = t1 at *
  generalize s % 1099511627776 = s0 at *
  generalize t % 1099511627776 = t0 at *
  rw [hd.out]
  clear hd
  go_enter Try.func40, Try.ntmps40
  rcases Nat.lt_trichotomy t1 s1 with h | h | h
  · have h' : (t1 : Int) < (s1 : Int) := by omega
    rw [decide_eq_true h]
    go_wp2_with (first
      | (go_at_call 71; (with_reducible refine (P1.out _).mono ?_); rintro e w1 ⟨rfl, rfl⟩)
      | (go_at_call 71; (with_reducible refine (P2.out _).mono ?_); rintro e w1 ⟨rfl, rfl⟩))
    go_ret
    exact Only.mk rfl
  · subst h
    rw [decide_eq_false (Nat.lt_irrefl t1), decide_eq_true rfl]
    by_cases h0 : t0 < s0
    · have h' : (t0 : Int) < (s0 : Int) := by omega
      rw [decide_eq_true h0]
      go_wp2_with (first
        | (go_at_call 71; (with_reducible refine (P1.out _).mono ?_); rintro e w1 ⟨rfl, rfl⟩)
        | (go_at_call 71; (with_reducible refine (P2.out _).mono ?_); rintro e w1 ⟨rfl, rfl⟩))
      go_ret
      exact Only.mk rfl
    · have h' : (s0 : Int) ≤ (t0 : Int) := by omega
      rw [decide_eq_false h0]
      go_wp2_with (first
        | (go_at_call 71; (with_reducible refine (P1.out _).mono ?_); rintro e w1 ⟨rfl, rfl⟩)
        | (go_at_call 71; (with_reducible refine (P2.out _).mono ?_); rintro e w1 ⟨rfl, rfl⟩))
      go_ret
      exact Only.mk rfl
  · have h' : (s1 : Int) < (t1 : Int) := by omega
    have h2 : ((s1 : Int) == (t1 : Int)) = false := by rw [beq_eq_false_iff_ne]; omega
    rw [decide_eq_false (show ¬ t1 < s1 by omega), decide_eq_false (show ¬ s1 = t1 by omega)]
    go_wp2_with (first
      | (go_at_call 71; (with_reducible refine (P1.out _).mono ?_); rintro e w1 ⟨rfl, rfl⟩)
      | (go_at_call 71; (with_reducible refine (P2.out _).mono ?_); rintro e w1 ⟨rfl, rfl⟩))
    go_ret
    exact Only.mk (by show Value.bool (decide (t1 < s1)) = _; rw [decide_eq_false (show ¬ t1 < s1 by omega)]; rfl)
end Go.Proofs.Ytdafpjapepfniaa
