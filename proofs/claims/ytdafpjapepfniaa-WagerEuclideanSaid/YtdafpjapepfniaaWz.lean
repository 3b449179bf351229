/- Layer 7, by the specification: Euclid. -/
import Derived.Test.YtdafpjapepfniaaWw
namespace Go.Proofs.Ytdafpjapepfniaa
set_option linter.unusedSimpArgs false
set_option linter.unusedVariables false
open Go Go.RowKit

set_option maxRecDepth 100000 in
set_option maxHeartbeats 2000000 in
theorem refgood_any : ∀ n x y : Nat, ∀ w : World, x ≤ n → 0 < y → y ≤ x → x ≤ 1099511627776 →
    Calls Try.prog 53 #[.int .i64 (x : Int), .int .i64 (y : Int)] w (Only (.bool (hc (qs x y))) w)
  | 0, x, y, w, h, hy, hx, hm => by omega
  | n + 1, x, y, w, h, hy, hx, hm => by
    have hy0 : ((y : Int) == 0) = false := by rw [beq_eq_false_iff_ne]; omega
    have hy1 : (0 : Int) < (y : Int) := by omega
    by_cases e : x = y
    · subst e
      rw [hc_same hy]
      go_enter Try.func53, Try.ntmps53
      go_wp2
      go_ret
      exact Only.mk rfl
    · have hne : ((x : Int) == (y : Int)) = false := by rw [beq_eq_false_iff_ne]; omega
      by_cases h2 : 2 * y ≤ x
      · rw [hc_big hy h2]
        have hq := div_two hy h2
        have ed := div_i x y
        have hqx : x / y ≤ x := Nat.div_le_self _ _
        generalize x / y = q at *
        have hq' : (2 : Int) ≤ (q : Int) := by omega
        go_enter Try.func53, Try.ntmps53
        go_wp2
        go_ret
        exact Only.mk rfl
      · rw [hc_step (by omega) (by omega)]
        have ed := div_i x y
        rw [(div_one hy hx (by omega)).1] at ed
        have ed1 : (x : Int) / (y : Int) = 1 := ed
        clear ed
        have R := fun W => refgood_any n y (x - y) W (by omega) (by omega) (by omega) (by omega)
        have er : (x : Int) - (y : Int) = ((x - y : Nat) : Int) := by omega
        generalize hr : x - y = r at *
        cases g : hc (qs y r)
        all_goals
          rw [g] at R
          replace R := Lib.hid R
          go_enter Try.func53, Try.ntmps53
          go_wp2_with (go_at_call 53; (with_reducible refine (R.out _).mono ?_); rintro e w1 ⟨rfl, rfl⟩)
          go_ret
          exact Only.mk rfl
/-- The first multiple that leaves heaps from which nobody wins. -/
theorem eucO_first {x y k : Nat} (hy : 0 < y) (h1 : max 1 (x / y - 1) ≤ k) (h2 : k ≤ x / y) (h3 : hcw (x - k * y) y = false) (h4 : ∀ j, max 1 (x / y - 1) ≤ j → j < k → hcw (x - j * y) y = true) : eucO x y = some k := by
  unfold eucO
  by_cases e : k = x / y
  · rw [if_neg, ← e, if_pos h3]
    rintro ⟨g1, g2⟩
    rw [h4 (x / y - 1) (by omega) (by omega)] at g2
    cases g2
  · have e2 : k = x / y - 1 := by omega
    rw [if_pos ⟨by omega, by rw [← e2]; exact h3⟩, e2]
theorem eucO_never {x y : Nat} (h1 : 1 ≤ x / y) (h4 : ∀ j, max 1 (x / y - 1) ≤ j → j < x / y + 1 → hcw (x - j * y) y = true) : eucO x y = none := by
  unfold eucO
  rw [if_neg, if_neg]
  · rw [h4 (x / y) (by omega) (by omega)]; simp
  · rintro ⟨g1, g2⟩
    rw [h4 (x / y - 1) (by omega) (by omega)] at g2
    cases g2
theorem eucV_some {a b k : Nat} (h : min a b ≠ 0) (h2 : eucO (max a b) (min a b) = some k) : eucV a b = twoV (eucM a b k).s0 (eucM a b k).s1 0 := by
  unfold eucV eucR
  rw [if_neg h, h2]
  rfl
theorem eucV_none {a b : Nat} (h2 : eucO (max a b) (min a b) = none) : eucV a b = twoV 0 0 10 := by
  unfold eucV eucR
  rw [h2]
  by_cases h : min a b = 0
  · rw [if_pos h]
  · rw [if_neg h]
    rfl
theorem eucV_zero {a b : Nat} (h : min a b = 0) : eucV a b = twoV 0 0 10 := by
  unfold eucV eucR
  rw [if_pos h]
theorem eucV_same {a : Nat} (h : 0 < a) : eucV a a = twoV (a : Int) 0 0 := by
  have e : eucO a a = some 1 := by
    unfold eucO
    rw [Nat.div_self h, if_neg (by omega), if_pos]
    rw [Nat.one_mul, Nat.sub_self]
    exact hcw_zero a
  rw [eucV_some (k := 1) (by omega) (by rw [Nat.max_self, Nat.min_self]; exact e)]
  unfold eucM
  rw [if_pos (Nat.le_refl _), Nat.one_mul, Nat.sub_self]
  rfl
theorem eucV_gt {a b k : Nat} (hab : b < a) (h : 0 < b) (h2 : eucO a b = some k) : eucV a b = twoV ((a - k * b : Nat) : Int) (b : Int) 0 := by
  rw [eucV_some (k := k) (by omega) (by rw [Nat.max_eq_left (by omega), Nat.min_eq_right (by omega)]; exact h2)]
  unfold eucM
  rw [if_neg (by omega)]
theorem eucV_lt {a b k : Nat} (hab : a < b) (h : 0 < a) (h2 : eucO b a = some k) : eucV a b = twoV (a : Int) ((b - k * a : Nat) : Int) 0 := by
  rw [eucV_some (k := k) (by omega) (by rw [Nat.max_eq_right (by omega), Nat.min_eq_left (by omega)]; exact h2)]
  unfold eucM
  rw [if_pos (by omega)]

set_option maxRecDepth 100000 in
set_option maxHeartbeats 8000000 in
theorem refEuclid_gt (a b : Nat) (w : World) (ha : a ≤ 1099511627776) (hb : b ≤ 1099511627776) (hab : b < a) (h0 : 0 < b) : Calls Try.prog 25 #[.int .i64 (a : Int), .int .i64 (b : Int)] w (Only (eucV a b) w) := by
  have a0 : ((a : Int) == 0) = false := by rw [beq_eq_false_iff_ne]; omega
  have b0 : ((b : Int) == 0) = false := by rw [beq_eq_false_iff_ne]; omega
  have ab : ((a : Int) == (b : Int)) = false := by rw [beq_eq_false_iff_ne]; omega
  have e1 : max (a : Int) (b : Int) = (a : Int) := by omega
  have e2 : min (a : Int) (b : Int) = (b : Int) := by omega
  have y1 : (0 : Int) < (b : Int) := by omega
  have hcmp : (b : Int) < (a : Int) := by omega
  have ed := div_i a b
  have hq1 : 1 ≤ a / b := (Nat.le_div_iff_mul_le h0).2 (by omega)
  have hqm := Nat.div_mul_le_self a b
  have hq2 : a / b ≤ a := Nat.div_le_self _ _
  have hsome : Hid (∀ k, max 1 (a / b - 1) ≤ k → k ≤ a / b → hcw (a - k * b) b = false → (∀ j, max 1 (a / b - 1) ≤ j → j < k → hcw (a - j * b) b = true) → eucV a b = twoV ((a - k * b : Nat) : Int) (b : Int) 0) := Lib.hid fun k h1 h2 h3 h4 => eucV_gt hab h0 (eucO_first h0 h1 h2 h3 h4)
  have hnone : Hid ((∀ j, max 1 (a / b - 1) ≤ j → j < a / b + 1 → hcw (a - j * b) b = true) → eucV a b = twoV 0 0 10) := Lib.hid fun h => eucV_none (by rw [Nat.max_eq_left (by omega), Nat.min_eq_right (by omega)]; exact eucO_never hq1 h)
  have hmul : Hid (∀ k, k ≤ a / b → k * b ≤ a) := Lib.hid fun k hk => Nat.le_trans (Nat.mul_le_mul_right _ hk) (Nat.div_mul_le_self _ _)
  obtain ⟨q, hqq⟩ : ∃ q, Hid (a / b = q) := ⟨_, Lib.hid rfl⟩
  rw [hqq.out] at ed hq1 hqm hq2 hsome hnone hmul
  obtain ⟨s, hss⟩ : ∃ s, Hid (max 1 (q - 1) = s) := ⟨_, Lib.hid rfl⟩
  have hs1 : 1 ≤ s ∧ s ≤ q ∧ q ≤ s + 1 := by have := hss.out; omega
  have e3 : max (1 : Int) ((q : Int) - 1) = (s : Int) := by have := hss.out; omega
  rw [hss.out] at hsome hnone
  obtain ⟨hs1, hs2, hs3⟩ := hs1
  clear hqm hqq hss
  go_enter Try.func25, Try.ntmps25
  go_wp2
  go_loop [9, 10] (fun i _ => ∃ k : Nat, i = .int .i64 k ∧ s ≤ k ∧ k ≤ q + 1 ∧ Hid (∀ j, s ≤ j → j < k → hcw (a - j * b) b = true)) (fun i _ => q + 1 - (intOf i).toNat)
  case atStart => exact ⟨s, rfl, by omega, by omega, Lib.hid (fun j h1 h2 => by omega)⟩
  case round =>
    obtain ⟨k, rfl, hk1, hk2, hall⟩ := hrel
    by_cases hlt : k ≤ q
    · have hlt' : (k : Int) ≤ (q : Int) := by omega
      have hm := hmul.out k hlt
      have hm2 : (k : Int) * (b : Int) = ((k * b : Nat) : Int) := (Int.natCast_mul k b).symm
      have hnext : Hid (hcw (a - k * b) b = true → ∀ j, s ≤ j → j < k + 1 → hcw (a - j * b) b = true) := Lib.hid fun h j h1 h2 => by
        by_cases e : j = k
        · rw [e]; exact h
        · exact hall.out j h1 (by omega)
      have hdone : Hid (hcw (a - k * b) b = false → eucV a b = twoV ((a - k * b : Nat) : Int) (b : Int) 0) := Lib.hid fun h => hsome.out k hk1 hlt h hall.out
      clear hall hsome hnone hmul
      generalize k * b = m at *
      have hr : (a : Int) - (m : Int) = ((a - m : Nat) : Int) := by omega
      have hrb : a - m ≤ a := by omega
      generalize a - m = r at *
      by_cases r0 : r = 0
      · subst r0
        have e := hdone.out (hcw_zero _)
        rw [e]
        clear e hdone hnext
        have z : ((0 : Nat) : Int) = 0 := rfl
        rw [z] at hr ⊢
        go_wp2
        go_ret3
        exact Only.mk rfl
      · have r1 : ((r : Int) == 0) = false := by rw [beq_eq_false_iff_ne]; omega
        by_cases r2 : r = b
        · have hn := hnext.out (by rw [r2, hcw_ge (Nat.le_refl _), hc_same h0])
          subst r2
          clear hdone hnext
          replace hn := Lib.hid hn
          go_wp2
          go_round
          case rel => exact ⟨k + 1, by go_num, by omega, by omega, hn⟩
          case measure => simp [intOf]; omega
        · have r3 : ((r : Int) == (b : Int)) = false := by rw [beq_eq_false_iff_ne]; omega
          obtain ⟨M, hM⟩ : ∃ M, Hid (max r b = M) := ⟨_, Lib.hid rfl⟩
          obtain ⟨m', hm'⟩ : ∃ m', Hid (min r b = m') := ⟨_, Lib.hid rfl⟩
          have e4 : max (r : Int) (b : Int) = (M : Int) := by have := hM.out; omega
          have e5 : min (r : Int) (b : Int) = (m' : Int) := by have := hm'.out; omega
          have G := fun W => refgood_any M M m' W (Nat.le_refl _) (by have := hm'.out; omega) (by have := hM.out; have := hm'.out; omega) (by have := hM.out; omega)
          have hh : hcw r b = hc (qs M m') := by unfold hcw; rw [hM.out, hm'.out]
          rw [hh] at hnext hdone
          cases g : hc (qs M m')
          · rw [g] at G
            replace G := Lib.hid G
            rw [hdone.out g]
            clear hdone hnext hh
            go_wp2_with (go_at_call 53; (with_reducible refine (G.out _).mono ?_); rintro e w1 ⟨rfl, rfl⟩)
            go_ret3
            exact Only.mk rfl
          · rw [g] at G
            replace G := Lib.hid G
            have hn := Lib.hid (hnext.out g)
            clear hdone hnext hh
            go_wp2_with (go_at_call 53; (with_reducible refine (G.out _).mono ?_); rintro e w1 ⟨rfl, rfl⟩)
            go_round
            case rel => exact ⟨k + 1, by go_num, by omega, by omega, hn⟩
            case measure => simp [intOf]; omega
    · obtain rfl : k = q + 1 := by omega
      have he := Lib.hid (hnone.out hall.out)
      have hlt' : (q : Int) < ((q + 1 : Nat) : Int) := by omega
      clear hall hsome hnone hmul
      generalize q + 1 = p at *
      go_wp2
      go_ret3
      exact Only.mk (by rw [he.out]; rfl)

set_option maxRecDepth 100000 in
set_option maxHeartbeats 8000000 in
theorem refEuclid_lt (a b : Nat) (w : World) (ha : a ≤ 1099511627776) (hb : b ≤ 1099511627776) (hab : a < b) (h0 : 0 < a) : Calls Try.prog 25 #[.int .i64 (a : Int), .int .i64 (b : Int)] w (Only (eucV a b) w) := by
  have a0 : ((a : Int) == 0) = false := by rw [beq_eq_false_iff_ne]; omega
  have b0 : ((b : Int) == 0) = false := by rw [beq_eq_false_iff_ne]; omega
  have ab : ((a : Int) == (b : Int)) = false := by rw [beq_eq_false_iff_ne]; omega
  have e1 : max (a : Int) (b : Int) = (b : Int) := by omega
  have e2 : min (a : Int) (b : Int) = (a : Int) := by omega
  have y1 : (0 : Int) < (a : Int) := by omega
  have hcmp : (a : Int) < (b : Int) := by omega
  have ed := div_i b a
  have hq1 : 1 ≤ b / a := (Nat.le_div_iff_mul_le h0).2 (by omega)
  have hqm := Nat.div_mul_le_self b a
  have hq2 : b / a ≤ b := Nat.div_le_self _ _
  have hsome : Hid (∀ k, max 1 (b / a - 1) ≤ k → k ≤ b / a → hcw (b - k * a) a = false → (∀ j, max 1 (b / a - 1) ≤ j → j < k → hcw (b - j * a) a = true) → eucV a b = twoV (a : Int) ((b - k * a : Nat) : Int) 0) := Lib.hid fun k h1 h2 h3 h4 => eucV_lt hab h0 (eucO_first h0 h1 h2 h3 h4)
  have hnone : Hid ((∀ j, max 1 (b / a - 1) ≤ j → j < b / a + 1 → hcw (b - j * a) a = true) → eucV a b = twoV 0 0 10) := Lib.hid fun h => eucV_none (by rw [Nat.max_eq_right (by omega), Nat.min_eq_left (by omega)]; exact eucO_never hq1 h)
  have hmul : Hid (∀ k, k ≤ b / a → k * a ≤ b) := Lib.hid fun k hk => Nat.le_trans (Nat.mul_le_mul_right _ hk) (Nat.div_mul_le_self _ _)
  obtain ⟨q, hqq⟩ : ∃ q, Hid (b / a = q) := ⟨_, Lib.hid rfl⟩
  rw [hqq.out] at ed hq1 hqm hq2 hsome hnone hmul
  obtain ⟨s, hss⟩ : ∃ s, Hid (max 1 (q - 1) = s) := ⟨_, Lib.hid rfl⟩
  have hs1 : 1 ≤ s ∧ s ≤ q ∧ q ≤ s + 1 := by have := hss.out; omega
  have e3 : max (1 : Int) ((q : Int) - 1) = (s : Int) := by have := hss.out; omega
  rw [hss.out] at hsome hnone
  obtain ⟨hs1, hs2, hs3⟩ := hs1
  clear hqm hqq hss
  go_enter Try.func25, Try.ntmps25
  go_wp2
  go_loop [9, 10] (fun i _ => ∃ k : Nat, i = .int .i64 k ∧ s ≤ k ∧ k ≤ q + 1 ∧ Hid (∀ j, s ≤ j → j < k → hcw (b - j * a) a = true)) (fun i _ => q + 1 - (intOf i).toNat)
  case atStart => exact ⟨s, rfl, by omega, by omega, Lib.hid (fun j h1 h2 => by omega)⟩
  case round =>
    obtain ⟨k, rfl, hk1, hk2, hall⟩ := hrel
    by_cases hlt : k ≤ q
    · have hlt' : (k : Int) ≤ (q : Int) := by omega
      have hm := hmul.out k hlt
      have hm2 : (k : Int) * (a : Int) = ((k * a : Nat) : Int) := (Int.natCast_mul k a).symm
      have hnext : Hid (hcw (b - k * a) a = true → ∀ j, s ≤ j → j < k + 1 → hcw (b - j * a) a = true) := Lib.hid fun h j h1 h2 => by
        by_cases e : j = k
        · rw [e]; exact h
        · exact hall.out j h1 (by omega)
      have hdone : Hid (hcw (b - k * a) a = false → eucV a b = twoV (a : Int) ((b - k * a : Nat) : Int) 0) := Lib.hid fun h => hsome.out k hk1 hlt h hall.out
      clear hall hsome hnone hmul
      generalize k * a = m at *
      have hr : (b : Int) - (m : Int) = ((b - m : Nat) : Int) := by omega
      have hrb : b - m ≤ b := by omega
      generalize b - m = r at *
      by_cases r0 : r = 0
      · subst r0
        have e := hdone.out (hcw_zero _)
        rw [e]
        clear e hdone hnext
        have z : ((0 : Nat) : Int) = 0 := rfl
        rw [z] at hr ⊢
        go_wp2
        go_ret3
        exact Only.mk rfl
      · have r1 : ((r : Int) == 0) = false := by rw [beq_eq_false_iff_ne]; omega
        by_cases r2 : r = a
        · have hn := hnext.out (by rw [r2, hcw_ge (Nat.le_refl _), hc_same h0])
          subst r2
          clear hdone hnext
          replace hn := Lib.hid hn
          go_wp2
          go_round
          case rel => exact ⟨k + 1, by go_num, by omega, by omega, hn⟩
          case measure => simp [intOf]; omega
        · have r3 : ((r : Int) == (a : Int)) = false := by rw [beq_eq_false_iff_ne]; omega
          obtain ⟨M, hM⟩ : ∃ M, Hid (max r a = M) := ⟨_, Lib.hid rfl⟩
          obtain ⟨m', hm'⟩ : ∃ m', Hid (min r a = m') := ⟨_, Lib.hid rfl⟩
          have e4 : max (r : Int) (a : Int) = (M : Int) := by have := hM.out; omega
          have e5 : min (r : Int) (a : Int) = (m' : Int) := by have := hm'.out; omega
          have G := fun W => refgood_any M M m' W (Nat.le_refl _) (by have := hm'.out; omega) (by have := hM.out; have := hm'.out; omega) (by have := hM.out; omega)
          have hh : hcw r a = hc (qs M m') := by unfold hcw; rw [hM.out, hm'.out]
          rw [hh] at hnext hdone
          cases g : hc (qs M m')
          · rw [g] at G
            replace G := Lib.hid G
            rw [hdone.out g]
            clear hdone hnext hh
            go_wp2_with (go_at_call 53; (with_reducible refine (G.out _).mono ?_); rintro e w1 ⟨rfl, rfl⟩)
            go_ret3
            exact Only.mk rfl
          · rw [g] at G
            replace G := Lib.hid G
            have hn := Lib.hid (hnext.out g)
            clear hdone hnext hh
            go_wp2_with (go_at_call 53; (with_reducible refine (G.out _).mono ?_); rintro e w1 ⟨rfl, rfl⟩)
            go_round
            case rel => exact ⟨k + 1, by go_num, by omega, by omega, hn⟩
            case measure => simp [intOf]; omega
    · obtain rfl : k = q + 1 := by omega
      have he := Lib.hid (hnone.out hall.out)
      have hlt' : (q : Int) < ((q + 1 : Nat) : Int) := by omega
      clear hall hsome hnone hmul
      generalize q + 1 = p at *
      go_wp2
      go_ret3
      exact Only.mk (by rw [he.out]; rfl)

theorem refEuclid_yes (a b : Nat) (w : World) (ha : a ≤ 1099511627776) (hb : b ≤ 1099511627776) : Calls Try.prog 25 #[.int .i64 (a : Int), .int .i64 (b : Int)] w (Only (eucV a b) w) := by
  by_cases h0 : min a b = 0
  · rw [eucV_zero h0]
    by_cases ha0 : a = 0
    · subst ha0
      go_enter Try.func25, Try.ntmps25
      go_wp2
      go_ret3
      exact Only.mk rfl
    · have hb0 : b = 0 := by omega
      have ha1 : ((a : Int) == 0) = false := by rw [beq_eq_false_iff_ne]; omega
      subst hb0
      go_enter Try.func25, Try.ntmps25
      go_wp2
      go_ret3
      exact Only.mk rfl
  · rcases Nat.lt_trichotomy a b with h | h | h
    · exact refEuclid_lt a b w ha hb h (by omega)
    · subst h
      rw [eucV_same (by omega)]
      have ha1 : ((a : Int) == 0) = false := by rw [beq_eq_false_iff_ne]; omega
      go_enter Try.func25, Try.ntmps25
      go_wp2
      go_ret3
      exact Only.mk rfl
    · exact refEuclid_gt a b w ha hb h (by omega)
theorem refEuclid_no (n l : Int) (w : World) (h : ¬ (HeapP n ∧ HeapP l)) : Calls Try.prog 25 #[.int .i64 n, .int .i64 l] w (Only (twoV 0 0 2) w) := by
  rcases not_heaps h with h1 | ⟨h1, h2⟩ | ⟨h1, h2, h3⟩ | ⟨h1, h2, h3, h4⟩
  all_goals
    clear h
    go_enter Try.func25, Try.ntmps25
    go_wp2
    go_ret3
    exact Only.mk rfl
end Go.Proofs.Ytdafpjapepfniaa
