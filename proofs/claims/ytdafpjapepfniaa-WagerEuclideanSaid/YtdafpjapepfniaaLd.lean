/- Layer 7, the laws: WagerEuclidean. -/
import Derived.Test.YtdafpjapepfniaaWz
import Derived.Test.YtdafpjapepfniaaWx
namespace Go.Proofs.Ytdafpjapepfniaa
set_option linter.unusedSimpArgs false
set_option linter.unusedVariables false
open Go Go.RowKit

theorem eucV_gen (a b : Nat) : ∃ x y : Int, eucV a b = twoV x y (if hcw a b then 0 else 10) := by
  by_cases h : min a b = 0
  · rw [eucV_zero h]
    have : hcw a b = false := by unfold hcw; rw [h, qs_zero]; rfl
    rw [this]
    exact ⟨0, 0, rfl⟩
  · have hi := eucO_iff (show 0 < min a b by omega) (show min a b ≤ max a b by omega)
    unfold hcw
    rw [← hi]
    unfold eucV eucR
    rw [if_neg h]
    cases eucO (max a b) (min a b) with
    | none => exact ⟨0, 0, rfl⟩
    | some k => exact ⟨_, _, rfl⟩
theorem Euclid_won (a b : Nat) (ha : a ≤ 1099511627776) (hb : b ≤ 1099511627776) (h : hcw a b = true) : ∃ x y : Int, ∀ w : World, Calls Try.prog 24 #[.int .i64 (a : Int), .int .i64 (b : Int)] w (Ret (twoV x y 0) w) := by
  obtain ⟨x, y, e⟩ := eucV_gen a b
  rw [h] at e
  exact ⟨x, y, fun w => by have := Euclid_yes a b w ha hb; rwa [e] at this⟩
theorem Euclid_lost (a b : Nat) (ha : a ≤ 1099511627776) (hb : b ≤ 1099511627776) (h : hcw a b = false) : ∃ x y : Int, ∀ w : World, Calls Try.prog 24 #[.int .i64 (a : Int), .int .i64 (b : Int)] w (Ret (twoV x y 10) w) := by
  obtain ⟨x, y, e⟩ := eucV_gen a b
  rw [h] at e
  exact ⟨x, y, fun w => by have := Euclid_yes a b w ha hb; rwa [e] at this⟩

set_option maxRecDepth 100000 in
set_option maxHeartbeats 8000000 in
theorem euclidean_gt (n0 l0 t a b : Nat) (w : World) (h3 : t ≤ 18446744073709551615) (A1 : Hid (∀ W : World, Calls Try.prog 38 #[.int .u64 (n0 : Int)] W (Only (.int .i64 (a : Int)) W))) (A2 : Hid (∀ W : World, Calls Try.prog 38 #[.int .u64 (l0 : Int)] W (Only (.int .i64 (b : Int)) W))) (ha : a ≤ 1099511627776) (hb : b ≤ 1099511627776) (hab : b < a) (h0 : 0 < b) :
    Calls Try.prog 12 #[.int .u64 (n0 : Int), .int .u64 (l0 : Int), .int .u64 (t : Int)] w (Ret (.bool true) w) := by
  have AL := Lib.hid alive_any
  have a0 : ((a : Int) == 0) = false := by rw [beq_eq_false_iff_ne]; omega
  have b0 : ((b : Int) == 0) = false := by rw [beq_eq_false_iff_ne]; omega
  have ab : ((a : Int) == (b : Int)) = false := by rw [beq_eq_false_iff_ne]; omega
  have e1 : max (a : Int) (b : Int) = (a : Int) := by omega
  have e2 : min (a : Int) (b : Int) = (b : Int) := by omega
  have y1 : (0 : Int) < (b : Int) := by omega
  have hcmp : (b : Int) < (a : Int) := by omega
  have ed := div_i a b
  have hq1 : 1 ≤ a / b := (Nat.le_div_iff_mul_le h0).2 (by omega)
  have hq2 : a / b ≤ a := Nat.div_le_self _ _
  have hmul : Hid (∀ k, k ≤ a / b → k * b ≤ a) := Lib.hid fun k hk => Nat.le_trans (Nat.mul_le_mul_right _ hk) (Nat.div_mul_le_self _ _)
  have hO := Lib.hid (eucO_iff h0 (show b ≤ a by omega))
  have hO1 : Hid (eucO a b = none → ∀ j, 1 ≤ j → j ≤ a / b → hcw (a - j * b) b = true) := Lib.hid fun h => eucO_none h0 h
  have hO2 : Hid (∀ k, eucO a b = some k → 1 ≤ k ∧ k ≤ a / b ∧ hcw (a - k * b) b = false ∧ ∀ j, 1 ≤ j → j < k → hcw (a - j * b) b = true) := Lib.hid fun k h => eucO_some h0 (by omega) h
  have hO3 : Hid (∀ k, eucO a b = some k → eucV a b = twoV ((a - k * b : Nat) : Int) (b : Int) 0) := Lib.hid fun k h => eucV_gt hab h0 h
  have hO4 : Hid (eucO a b = none → eucV a b = twoV 0 0 10) := Lib.hid fun h => eucV_none (by rw [Nat.max_eq_left (by omega), Nat.min_eq_right (by omega)]; exact h)
  have E1 := fun W => Euclid_yes a b W ha hb
  obtain ⟨q, hqq⟩ : ∃ q, Hid (a / b = q) := ⟨_, Lib.hid rfl⟩
  rw [hqq.out] at ed hq1 hq2 hmul hO1 hO2
  have hr : t % q < q := Nat.mod_lt _ (by omega)
  have er := mod_i t q
  generalize t % q = r at *
  have q0 : ((q : Int) == 0) = false := by rw [beq_eq_false_iff_ne]; omega
  have q1 : (0 : Int) < (q : Int) := by omega
  have hm := hmul.out (1 + r) (by omega)
  have em : (1 + (r : Int)) * (b : Int) = (((1 + r) * b : Nat) : Int) := by rw [Int.natCast_mul]; rfl
  have hmY : b ≤ (1 + r) * b := Nat.le_mul_of_pos_left _ (by omega)
  have P := fun h => hO1.out h (1 + r) (by omega) (by omega)
  have P2 : ∀ k, eucO a b = some k → hcw (a - (1 + r) * b) b = false → k * b ≤ (1 + r) * b := fun k h h2 => by
    refine Nat.mul_le_mul_right _ (Nat.le_of_not_lt fun hlt => ?_)
    rw [(hO2.out k h).2.2.2 (1 + r) (by omega) hlt] at h2
    cases h2
  clear hO1 hqq
  generalize (1 + r) * b = m at *
  have ep : (a : Int) - (m : Int) = ((a - m : Nat) : Int) := by omega
  have hpb : a - m ≤ 1099511627776 := by omega
  generalize a - m = p at *
  cases h : eucO a b with
  | none =>
    have hv := hO4.out h
    have hp := P h
    rw [hv] at E1
    replace E1 := Lib.hid E1
    have p0 : ((p : Int) == 0) = false := by
      rw [beq_eq_false_iff_ne]
      intro e
      obtain rfl : p = 0 := by omega
      rw [hcw_zero] at hp
      cases hp
    obtain ⟨x2, y2, E2⟩ := Euclid_won p b hpb (by omega) hp
    replace E2 := Lib.hid E2
    clear hv hp P P2 hO hO2 hO3 hO4 h hmul
    go_enter Try.func12, Try.ntmps12
    go_wp2_with (first
      | (go_at_call 38; (with_reducible refine (A1.out _).mono ?_); rintro e w1 ⟨rfl, rfl⟩)
      | (go_at_call 38; (with_reducible refine (A2.out _).mono ?_); rintro e w1 ⟨rfl, rfl⟩)
      | (go_at_call 24; (with_reducible refine (E1.out _).mono ?_); rintro e w2 ⟨rfl, hb2⟩; replace hb2 := Lib.hid hb2)
      | (go_at_call 24; (with_reducible refine (E2.out _).mono ?_); rintro e w3 ⟨rfl, hb3⟩; replace hb2 := Lib.hid (nextB hb2.out hb3))
      | (go_at_call 23; refine (AL.out _).mono ?_; rintro e w6 ⟨rfl, hb6⟩))
    go_ret
    exact Ret.mk rfl (nextB hb2.out hb6)
  | some j =>
    have hv := hO3.out j h
    obtain ⟨j1, j2, j3, _⟩ := hO2.out j h
    have hP2 := P2 j h
    have hj := hmul.out j j2
    have hjY : b ≤ j * b := Nat.le_mul_of_pos_left _ (by omega)
    have hjm : ((j * b : Nat) : Int) % (b : Int) = 0 := by rw [Int.natCast_mul]; exact Int.mul_emod_left _ _
    rw [hv] at E1
    clear hv P P2 hO hO2 hO3 hO4 h hmul
    generalize j * b = mj at *
    have eu : (a : Int) - ((a - mj : Nat) : Int) = (mj : Int) := by omega
    have hub : a - mj ≤ 1099511627776 := by omega
    generalize a - mj = u at *
    replace E1 := Lib.hid E1
    obtain ⟨x3, y3, E3⟩ := Euclid_lost u b (by omega) (by omega) (by exact j3)
    replace E3 := Lib.hid E3
    have t3 : (mj : Int) + (b : Int) - (b : Int) = (mj : Int) := by omega
    by_cases hp0 : p = 0
    · subst hp0
      have hP3 := hP2 (hcw_zero _)
      obtain ⟨x2, y2, E2⟩ := Euclid_lost 0 b (by omega) (by omega) (hcw_zero _)
      have z : ((0 : Nat) : Int) = 0 := rfl
      rw [z] at E2 ep
      replace E2 := Lib.hid E2
      clear hP2 j3
      go_enter Try.func12, Try.ntmps12
      go_wp2_with (first
        | (go_at_call 38; (with_reducible refine (A1.out _).mono ?_); rintro e w1 ⟨rfl, rfl⟩)
        | (go_at_call 38; (with_reducible refine (A2.out _).mono ?_); rintro e w1 ⟨rfl, rfl⟩)
        | (go_at_call 24; (with_reducible refine (E1.out _).mono ?_); rintro e w2 ⟨rfl, hb2⟩; replace hb2 := Lib.hid hb2)
        | (go_at_call 24; (with_reducible refine (E2.out _).mono ?_); rintro e w3 ⟨rfl, hb3⟩; replace hb2 := Lib.hid (nextB hb2.out hb3))
        | (go_at_call 24; (with_reducible refine (E3.out _).mono ?_); rintro e w4 ⟨rfl, hb4⟩; replace hb2 := Lib.hid (nextB hb2.out hb4))
        | (go_at_call 23; refine (AL.out _).mono ?_; rintro e w6 ⟨rfl, hb6⟩))
      go_ret
      exact Ret.mk rfl (nextB hb2.out hb6)
    · have p0 : ((p : Int) == 0) = false := by rw [beq_eq_false_iff_ne]; omega
      cases hp : hcw p b
      · have hP3 := hP2 hp
        obtain ⟨x2, y2, E2⟩ := Euclid_lost p b hpb (by omega) hp
        replace E2 := Lib.hid E2
        clear hP2 j3
        go_enter Try.func12, Try.ntmps12
        go_wp2_with (first
          | (go_at_call 38; (with_reducible refine (A1.out _).mono ?_); rintro e w1 ⟨rfl, rfl⟩)
          | (go_at_call 38; (with_reducible refine (A2.out _).mono ?_); rintro e w1 ⟨rfl, rfl⟩)
          | (go_at_call 24; (with_reducible refine (E1.out _).mono ?_); rintro e w2 ⟨rfl, hb2⟩; replace hb2 := Lib.hid hb2)
          | (go_at_call 24; (with_reducible refine (E2.out _).mono ?_); rintro e w3 ⟨rfl, hb3⟩; replace hb2 := Lib.hid (nextB hb2.out hb3))
          | (go_at_call 24; (with_reducible refine (E3.out _).mono ?_); rintro e w4 ⟨rfl, hb4⟩; replace hb2 := Lib.hid (nextB hb2.out hb4))
          | (go_at_call 23; refine (AL.out _).mono ?_; rintro e w6 ⟨rfl, hb6⟩))
        go_ret
        exact Ret.mk rfl (nextB hb2.out hb6)
      · obtain ⟨x2, y2, E2⟩ := Euclid_won p b hpb (by omega) hp
        replace E2 := Lib.hid E2
        clear hP2 j3
        go_enter Try.func12, Try.ntmps12
        go_wp2_with (first
          | (go_at_call 38; (with_reducible refine (A1.out _).mono ?_); rintro e w1 ⟨rfl, rfl⟩)
          | (go_at_call 38; (with_reducible refine (A2.out _).mono ?_); rintro e w1 ⟨rfl, rfl⟩)
          | (go_at_call 24; (with_reducible refine (E1.out _).mono ?_); rintro e w2 ⟨rfl, hb2⟩; replace hb2 := Lib.hid hb2)
          | (go_at_call 24; (with_reducible refine (E2.out _).mono ?_); rintro e w3 ⟨rfl, hb3⟩; replace hb2 := Lib.hid (nextB hb2.out hb3))
          | (go_at_call 24; (with_reducible refine (E3.out _).mono ?_); rintro e w4 ⟨rfl, hb4⟩; replace hb2 := Lib.hid (nextB hb2.out hb4))
          | (go_at_call 23; refine (AL.out _).mono ?_; rintro e w6 ⟨rfl, hb6⟩))
        go_ret
        exact Ret.mk rfl (nextB hb2.out hb6)

set_option maxRecDepth 100000 in
set_option maxHeartbeats 8000000 in
theorem euclidean_lt (n0 l0 t a b : Nat) (w : World) (h3 : t ≤ 18446744073709551615) (A1 : Hid (∀ W : World, Calls Try.prog 38 #[.int .u64 (n0 : Int)] W (Only (.int .i64 (a : Int)) W))) (A2 : Hid (∀ W : World, Calls Try.prog 38 #[.int .u64 (l0 : Int)] W (Only (.int .i64 (b : Int)) W))) (ha : a ≤ 1099511627776) (hb : b ≤ 1099511627776) (hab : a < b) (h0 : 0 < a) :
    Calls Try.prog 12 #[.int .u64 (n0 : Int), .int .u64 (l0 : Int), .int .u64 (t : Int)] w (Ret (.bool true) w) := by
  have AL := Lib.hid alive_any
  have a0 : ((a : Int) == 0) = false := by rw [beq_eq_false_iff_ne]; omega
  have b0 : ((b : Int) == 0) = false := by rw [beq_eq_false_iff_ne]; omega
  have ab : ((a : Int) == (b : Int)) = false := by rw [beq_eq_false_iff_ne]; omega
  have e1 : max (a : Int) (b : Int) = (b : Int) := by omega
  have e2 : min (a : Int) (b : Int) = (a : Int) := by omega
  have y1 : (0 : Int) < (a : Int) := by omega
  have hcmp : (a : Int) < (b : Int) := by omega
  have ed := div_i b a
  have hq1 : 1 ≤ b / a := (Nat.le_div_iff_mul_le h0).2 (by omega)
  have hq2 : b / a ≤ b := Nat.div_le_self _ _
  have hmul : Hid (∀ k, k ≤ b / a → k * a ≤ b) := Lib.hid fun k hk => Nat.le_trans (Nat.mul_le_mul_right _ hk) (Nat.div_mul_le_self _ _)
  have hO := Lib.hid (eucO_iff h0 (show a ≤ b by omega))
  have hO1 : Hid (eucO b a = none → ∀ j, 1 ≤ j → j ≤ b / a → hcw (b - j * a) a = true) := Lib.hid fun h => eucO_none h0 h
  have hO2 : Hid (∀ k, eucO b a = some k → 1 ≤ k ∧ k ≤ b / a ∧ hcw (b - k * a) a = false ∧ ∀ j, 1 ≤ j → j < k → hcw (b - j * a) a = true) := Lib.hid fun k h => eucO_some h0 (by omega) h
  have hO3 : Hid (∀ k, eucO b a = some k → eucV a b = twoV (a : Int) ((b - k * a : Nat) : Int) 0) := Lib.hid fun k h => eucV_lt hab h0 h
  have hO4 : Hid (eucO b a = none → eucV a b = twoV 0 0 10) := Lib.hid fun h => eucV_none (by rw [Nat.max_eq_right (by omega), Nat.min_eq_left (by omega)]; exact h)
  have E1 := fun W => Euclid_yes a b W ha hb
  obtain ⟨q, hqq⟩ : ∃ q, Hid (b / a = q) := ⟨_, Lib.hid rfl⟩
  rw [hqq.out] at ed hq1 hq2 hmul hO1 hO2
  have hr : t % q < q := Nat.mod_lt _ (by omega)
  have er := mod_i t q
  generalize t % q = r at *
  have q0 : ((q : Int) == 0) = false := by rw [beq_eq_false_iff_ne]; omega
  have q1 : (0 : Int) < (q : Int) := by omega
  have hm := hmul.out (1 + r) (by omega)
  have em : (1 + (r : Int)) * (a : Int) = (((1 + r) * a : Nat) : Int) := by rw [Int.natCast_mul]; rfl
  have hmY : a ≤ (1 + r) * a := Nat.le_mul_of_pos_left _ (by omega)
  have P := fun h => hO1.out h (1 + r) (by omega) (by omega)
  have P2 : ∀ k, eucO b a = some k → hcw (b - (1 + r) * a) a = false → k * a ≤ (1 + r) * a := fun k h h2 => by
    refine Nat.mul_le_mul_right _ (Nat.le_of_not_lt fun hlt => ?_)
    rw [(hO2.out k h).2.2.2 (1 + r) (by omega) hlt] at h2
    cases h2
  clear hO1 hqq
  generalize (1 + r) * a = m at *
  have ep : (b : Int) - (m : Int) = ((b - m : Nat) : Int) := by omega
  have hpb : b - m ≤ 1099511627776 := by omega
  generalize b - m = p at *
  cases h : eucO b a with
  | none =>
    have hv := hO4.out h
    have hp := P h
    rw [hv] at E1
    replace E1 := Lib.hid E1
    have p0 : ((p : Int) == 0) = false := by
      rw [beq_eq_false_iff_ne]
      intro e
      obtain rfl : p = 0 := by omega
      rw [hcw_zero] at hp
      cases hp
    obtain ⟨x2, y2, E2⟩ := Euclid_won p a hpb (by omega) hp
    replace E2 := Lib.hid E2
    clear hv hp P P2 hO hO2 hO3 hO4 h hmul
    go_enter Try.func12, Try.ntmps12
    go_wp2_with (first
      | (go_at_call 38; (with_reducible refine (A1.out _).mono ?_); rintro e w1 ⟨rfl, rfl⟩)
      | (go_at_call 38; (with_reducible refine (A2.out _).mono ?_); rintro e w1 ⟨rfl, rfl⟩)
      | (go_at_call 24; (with_reducible refine (E1.out _).mono ?_); rintro e w2 ⟨rfl, hb2⟩; replace hb2 := Lib.hid hb2)
      | (go_at_call 24; (with_reducible refine (E2.out _).mono ?_); rintro e w3 ⟨rfl, hb3⟩; replace hb2 := Lib.hid (nextB hb2.out hb3))
      | (go_at_call 23; refine (AL.out _).mono ?_; rintro e w6 ⟨rfl, hb6⟩))
    go_ret
    exact Ret.mk rfl (nextB hb2.out hb6)
  | some j =>
    have hv := hO3.out j h
    obtain ⟨j1, j2, j3, _⟩ := hO2.out j h
    have hP2 := P2 j h
    have hj := hmul.out j j2
    have hjY : a ≤ j * a := Nat.le_mul_of_pos_left _ (by omega)
    have hjm : ((j * a : Nat) : Int) % (a : Int) = 0 := by rw [Int.natCast_mul]; exact Int.mul_emod_left _ _
    rw [hv] at E1
    clear hv P P2 hO hO2 hO3 hO4 h hmul
    generalize j * a = mj at *
    have eu : (b : Int) - ((b - mj : Nat) : Int) = (mj : Int) := by omega
    have hub : b - mj ≤ 1099511627776 := by omega
    generalize b - mj = u at *
    replace E1 := Lib.hid E1
    obtain ⟨x3, y3, E3⟩ := Euclid_lost a u (by omega) (by omega) (by rw [hcw_comm]; exact j3)
    replace E3 := Lib.hid E3
    have t0 : (a : Int) - (a : Int) = 0 := by omega
    have t1 : (0 : Int) + (b : Int) = (b : Int) := by omega
    by_cases hp0 : p = 0
    · subst hp0
      have hP3 := hP2 (hcw_zero _)
      obtain ⟨x2, y2, E2⟩ := Euclid_lost 0 a (by omega) (by omega) (hcw_zero _)
      have z : ((0 : Nat) : Int) = 0 := rfl
      rw [z] at E2 ep
      replace E2 := Lib.hid E2
      clear hP2 j3
      go_enter Try.func12, Try.ntmps12
      go_wp2_with (first
        | (go_at_call 38; (with_reducible refine (A1.out _).mono ?_); rintro e w1 ⟨rfl, rfl⟩)
        | (go_at_call 38; (with_reducible refine (A2.out _).mono ?_); rintro e w1 ⟨rfl, rfl⟩)
        | (go_at_call 24; (with_reducible refine (E1.out _).mono ?_); rintro e w2 ⟨rfl, hb2⟩; replace hb2 := Lib.hid hb2)
        | (go_at_call 24; (with_reducible refine (E2.out _).mono ?_); rintro e w3 ⟨rfl, hb3⟩; replace hb2 := Lib.hid (nextB hb2.out hb3))
        | (go_at_call 24; (with_reducible refine (E3.out _).mono ?_); rintro e w4 ⟨rfl, hb4⟩; replace hb2 := Lib.hid (nextB hb2.out hb4))
        | (go_at_call 23; refine (AL.out _).mono ?_; rintro e w6 ⟨rfl, hb6⟩))
      go_ret
      exact Ret.mk rfl (nextB hb2.out hb6)
    · have p0 : ((p : Int) == 0) = false := by rw [beq_eq_false_iff_ne]; omega
      cases hp : hcw p a
      · have hP3 := hP2 hp
        obtain ⟨x2, y2, E2⟩ := Euclid_lost p a hpb (by omega) hp
        replace E2 := Lib.hid E2
        clear hP2 j3
        go_enter Try.func12, Try.ntmps12
        go_wp2_with (first
          | (go_at_call 38; (with_reducible refine (A1.out _).mono ?_); rintro e w1 ⟨rfl, rfl⟩)
          | (go_at_call 38; (with_reducible refine (A2.out _).mono ?_); rintro e w1 ⟨rfl, rfl⟩)
          | (go_at_call 24; (with_reducible refine (E1.out _).mono ?_); rintro e w2 ⟨rfl, hb2⟩; replace hb2 := Lib.hid hb2)
          | (go_at_call 24; (with_reducible refine (E2.out _).mono ?_); rintro e w3 ⟨rfl, hb3⟩; replace hb2 := Lib.hid (nextB hb2.out hb3))
          | (go_at_call 24; (with_reducible refine (E3.out _).mono ?_); rintro e w4 ⟨rfl, hb4⟩; replace hb2 := Lib.hid (nextB hb2.out hb4))
          | (go_at_call 23; refine (AL.out _).mono ?_; rintro e w6 ⟨rfl, hb6⟩))
        go_ret
        exact Ret.mk rfl (nextB hb2.out hb6)
      · obtain ⟨x2, y2, E2⟩ := Euclid_won p a hpb (by omega) hp
        replace E2 := Lib.hid E2
        clear hP2 j3
        go_enter Try.func12, Try.ntmps12
        go_wp2_with (first
          | (go_at_call 38; (with_reducible refine (A1.out _).mono ?_); rintro e w1 ⟨rfl, rfl⟩)
          | (go_at_call 38; (with_reducible refine (A2.out _).mono ?_); rintro e w1 ⟨rfl, rfl⟩)
          | (go_at_call 24; (with_reducible refine (E1.out _).mono ?_); rintro e w2 ⟨rfl, hb2⟩; replace hb2 := Lib.hid hb2)
          | (go_at_call 24; (with_reducible refine (E2.out _).mono ?_); rintro e w3 ⟨rfl, hb3⟩; replace hb2 := Lib.hid (nextB hb2.out hb3))
          | (go_at_call 24; (with_reducible refine (E3.out _).mono ?_); rintro e w4 ⟨rfl, hb4⟩; replace hb2 := Lib.hid (nextB hb2.out hb4))
          | (go_at_call 23; refine (AL.out _).mono ?_; rintro e w6 ⟨rfl, hb6⟩))
        go_ret
        exact Ret.mk rfl (nextB hb2.out hb6)

set_option maxRecDepth 100000 in
set_option maxHeartbeats 4000000 in
theorem euclidean_law (n0 l0 t : Nat) (w : World) (h1 : n0 ≤ 18446744073709551615) (h2 : l0 ≤ 18446744073709551615) (h3 : t ≤ 18446744073709551615) :
    Calls Try.prog 12 #[.int .u64 (n0 : Int), .int .u64 (l0 : Int), .int .u64 (t : Int)] w (Ret (.bool true) w) := by
  have A1 := Lib.hid (fun W => heap_any n0 W h1)
  have A2 := Lib.hid (fun W => heap_any l0 W h2)
  have ha := hpN_le n0
  have hb := hpN_le l0
  generalize hpN n0 = a at *
  generalize hpN l0 = b at *
  by_cases h0 : min a b = 0
  · have AL := Lib.hid alive_any
    have E1 := fun W => Euclid_yes a b W ha hb
    rw [eucV_zero h0] at E1
    replace E1 := Lib.hid E1
    by_cases ha0 : a = 0
    · subst ha0
      go_enter Try.func12, Try.ntmps12
      go_wp2_with (first
        | (go_at_call 38; (with_reducible refine (A1.out _).mono ?_); rintro e w1 ⟨rfl, rfl⟩)
        | (go_at_call 38; (with_reducible refine (A2.out _).mono ?_); rintro e w1 ⟨rfl, rfl⟩)
        | (go_at_call 24; refine (E1.out _).mono ?_; rintro e w2 ⟨rfl, hb2⟩; replace hb2 := Lib.hid hb2)
        | (go_at_call 23; refine (AL.out _).mono ?_; rintro e w6 ⟨rfl, hb6⟩))
      go_ret
      exact Ret.mk rfl (nextB hb2.out hb6)
    · have hb0 : b = 0 := by omega
      have ha1 : ((a : Int) == 0) = false := by rw [beq_eq_false_iff_ne]; omega
      subst hb0
      go_enter Try.func12, Try.ntmps12
      go_wp2_with (first
        | (go_at_call 38; (with_reducible refine (A1.out _).mono ?_); rintro e w1 ⟨rfl, rfl⟩)
        | (go_at_call 38; (with_reducible refine (A2.out _).mono ?_); rintro e w1 ⟨rfl, rfl⟩)
        | (go_at_call 24; refine (E1.out _).mono ?_; rintro e w2 ⟨rfl, hb2⟩; replace hb2 := Lib.hid hb2)
        | (go_at_call 23; refine (AL.out _).mono ?_; rintro e w6 ⟨rfl, hb6⟩))
      go_ret
      exact Ret.mk rfl (nextB hb2.out hb6)
  · rcases Nat.lt_trichotomy a b with h | h | h
    · exact euclidean_lt n0 l0 t a b w h3 A1 A2 ha hb h (by omega)
    · subst h
      have AL := Lib.hid alive_any
      have E1 := fun W => Euclid_yes a a W ha ha
      rw [eucV_same (by omega)] at E1
      replace E1 := Lib.hid E1
      obtain ⟨x2, y2, E2⟩ := Euclid_lost 0 a (by omega) ha (hcw_zero _)
      have z : ((0 : Nat) : Int) = 0 := rfl
      rw [z] at E2
      replace E2 := Lib.hid E2
      have a0 : ((a : Int) == 0) = false := by rw [beq_eq_false_iff_ne]; omega
      have y1 : (0 : Int) < (a : Int) := by omega
      have e1 : max (a : Int) (a : Int) = (a : Int) := by omega
      have e2 : min (a : Int) (a : Int) = (a : Int) := by omega
      have ed : (a : Int) / (a : Int) = 1 := Int.ediv_self (by omega)
      have er : (t : Int) % 1 = 0 := Int.emod_one _
      have em : (1 : Int) * (a : Int) = (a : Int) := by omega
      have ep : (a : Int) - (a : Int) = 0 := by omega
      go_enter Try.func12, Try.ntmps12
      go_wp2_with (first
        | (go_at_call 38; (with_reducible refine (A1.out _).mono ?_); rintro e w1 ⟨rfl, rfl⟩)
        | (go_at_call 38; (with_reducible refine (A2.out _).mono ?_); rintro e w1 ⟨rfl, rfl⟩)
        | (go_at_call 24; (with_reducible refine (E1.out _).mono ?_); rintro e w2 ⟨rfl, hb2⟩; replace hb2 := Lib.hid hb2)
        | (go_at_call 24; (with_reducible refine (E2.out _).mono ?_); rintro e w3 ⟨rfl, hb3⟩; replace hb2 := Lib.hid (nextB hb2.out hb3))
        | (go_at_call 23; refine (AL.out _).mono ?_; rintro e w6 ⟨rfl, hb6⟩))
      go_ret
      exact Ret.mk rfl (nextB hb2.out hb6)
    · exact euclidean_gt n0 l0 t a b w h3 A1 A2 ha hb h (by omega)
end Go.Proofs.Ytdafpjapepfniaa
