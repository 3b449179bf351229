/- Layer 7, by the specification: Nim, Whole. -/
import Derived.Test.YtdafpjapepfniaaGc
import Derived.Test.YtdafpjapepfniaaWd
namespace Go.Proofs.Ytdafpjapepfniaa
set_option linter.unusedSimpArgs false
set_option linter.unusedVariables false
open Go Go.RowKit

theorem gr_nim {n t : Nat} (h : t ≤ n) : gr (n - t) (min (2 * t) (n - t)) = 0 ↔ nimW (n - t) (2 * t) = false := by
  rw [gr_zero (n - t) _ (by omega), nimW_min]
set_option maxRecDepth 100000 in
set_option maxHeartbeats 4000000 in
theorem refNim_small (n l : Nat) (w : World) (hn : n ≤ 60) (hl : l ≤ 1099511627776) : Calls Try.prog 20 #[.int .i64 (n : Int), .int .i64 (l : Int)] w (Ret (nimV n l) w) := by
  have T := Lib.hid (fun W => table_any n W (by omega))
  unfold TableR at T
  obtain ⟨N, hN⟩ : ∃ N, n + 1 = N := ⟨_, rfl⟩
  rw [hN] at T
  have hbig : Hid (∀ t, 1 ≤ t → t < tl n → gr (n - t) (min (2 * t) (n - t)) ≠ 0) := Lib.hid fun t h1 h2 e => by
    have hn0 : 0 < n := by
      rcases Nat.eq_zero_or_pos n with h | h
      · subst h; rw [tl_zero] at h2; omega
      · exact h
    have := (tl_le n hn0).2
    rw [gr_nim (by omega), nim_least n t (by omega) h2] at e
    cases e
  have htail : Hid (0 < n → gr (n - tl n) (min (2 * tl n) (n - tl n)) = 0) := Lib.hid fun h => (gr_nim (tl_le n h).2).2 (nim_tail n h)
  have htl : Hid (0 < n → 0 < tl n ∧ tl n ≤ n) := Lib.hid fun h => tl_le n h
  have hyes : Hid (0 < n → tl n ≤ l → nimV n l = numV (tl n) 0) := Lib.hid fun h1 h2 => by
    unfold nimV nimW
    rw [decide_eq_true ⟨h1, h2⟩]
    rfl
  have hno : Hid ((n = 0 ∨ l < tl n) → nimV n l = numV 0 10) := Lib.hid fun h => by
    unfold nimV nimW
    rw [decide_eq_false (by omega)]
    rfl
  go_enter Try.func20, Try.ntmps20
  go_wp2_with (go_at_call 50; refine (T.out _).mono ?_; rintro e w1 ⟨B, C, g, c, rfl, f1, f2, hb⟩; replace hb := Lib.hid hb; replace f1 := Lib.hid f1; replace f2 := Lib.hid f2)
  go_loop [7] (fun t => ∃ j : Nat, 1 ≤ j ∧ j ≤ n + 1 ∧ (0 < n → j ≤ tl n) ∧ t = .int .i64 j) (fun t => n + 1 - (intOf t).toNat)
  case atStart => exact ⟨1, Nat.le_refl _, by omega, fun h => (htl.out h).1, rfl⟩
  case round =>
    obtain ⟨t, ht1, htn, htt, rfl⟩ := hrel
    by_cases h1 : t ≤ l
    · have h1' : (t : Int) ≤ (l : Int) := by omega
      by_cases h2 : t ≤ n
      · have h2' : (t : Int) ≤ (n : Int) := by omega
        have htt' := htt (by omega)
        obtain ⟨R, hR⟩ : ∃ R, n - t = R := ⟨_, rfl⟩
        have eR : (n : Int) - (t : Int) = (R : Int) := by omega
        obtain ⟨m, hm⟩ : ∃ m, min (2 * t) R = m := ⟨_, rfl⟩
        have em : min (2 * (t : Int)) (R : Int) = (m : Int) := by omega
        have hRN : R < N := by omega
        have hRN' : (R : Int) < (N : Int) := by omega
        have hmR : m ≤ R := by omega
        have x0 := f1.out R hRN
        have x1 := f2.out R m hRN hmR
        obtain ⟨L, hL⟩ : ∃ L, R + 1 = L := ⟨_, rfl⟩
        have hmL : (m : Int) < (L : Int) := by omega
        rw [hL] at x0
        by_cases he : t = tl n
        · have hz := htail.out (by omega)
          rw [← he, hR, hm] at hz
          rw [hz] at x1
          have hv := Lib.hid (hyes.out (by omega) (by omega))
          replace he := Lib.hid he
          clear hR hm htt
          replace x1 : w1.cell? ⟨g R, m, none⟩ = some (.int .i64 0) := x1
          go_wp2
          go_ret2
          exact Ret.mk (by rw [hv.out, ← he.out]; rfl) hb.out
        · have hz := hbig.out t ht1 (by omega)
          rw [hR, hm] at hz
          generalize gr R m = v at *
          have hv : ((v : Int) == 0) = false := by rw [beq_eq_false_iff_ne]; omega
          clear hR hm
          go_wp2
          go_round
          case rel => exact ⟨t + 1, by omega, by omega, fun _ => by omega, by go_num⟩
          case measure => simp [intOf]; omega
      · have h2' : (n : Int) < (t : Int) := by omega
        have hn0 : n = 0 := by
          rcases Nat.eq_zero_or_pos n with h | h
          · exact h
          · have := htt h; have := (htl.out h).2; omega
        have hv := Lib.hid (hno.out (.inl hn0))
        clear htt hn0
        go_wp2
        go_ret2
        exact Ret.mk (by rw [hv.out]; rfl) hb.out
    · have h1' : (l : Int) < (t : Int) := by omega
      have hv : Hid (nimV n l = numV 0 10) := Lib.hid (hno.out (by
        rcases Nat.eq_zero_or_pos n with h | h
        · exact .inl h
        · have := htt h; exact .inr (by omega)))
      clear htt
      go_wp2
      go_ret2
      exact Ret.mk (by rw [hv.out]; rfl) hb.out
set_option maxRecDepth 100000 in
set_option maxHeartbeats 4000000 in
theorem refNim_big (n l : Nat) (w : World) (h60 : 60 < n) (hn : n ≤ 1099511627776) (hl : l ≤ 1099511627776) : Calls Try.prog 20 #[.int .i64 (n : Int), .int .i64 (l : Int)] w (Ret (nimV n l) w) := by
  have P : Hid (∀ W, Calls Try.prog 46 #[.int .i64 (n : Int)] W (fun e w' => ∃ b off k c, e = .returned (.slice (some ⟨b, off, none⟩) k c) ∧ 0 < k ∧ k ≤ 58 ∧ w'.cell? ⟨b, off + (k - 1), none⟩ = some (.int .i64 ((tl n : Nat) : Int)) ∧ Below W.heap.size W w')) := Lib.hid fun W =>
    (refparts_any n W hn).mono fun e w' ⟨a, c, h1, h2, h3, h4⟩ => by
      have hl := zx_len n hn
      have h5 := lastTo_tl n
      have hpos : 0 < (zx n).length := by
        rcases Nat.eq_zero_or_pos (zx n).length with h | h
        · have := zx_sum n
          rw [List.eq_nil_of_length_eq_zero h, sm_nil] at this
          omega
        · exact h
      rw [fI_length] at h1 h5
      obtain ⟨b, off, rfl, hc⟩ : ∃ b off, a = some ⟨b, off, none⟩ ∧ ∀ i, i < (zx n).length → w'.cell? ⟨b, off + i, none⟩ = some (.int .i64 (nth (fI (zx n)) i)) := by
        rcases h3 with h | ⟨b, off, e, h⟩
        · rw [fI_length] at h; omega
        · exact ⟨b, off, e, fun i hi => h i (by rw [fI_length]; exact hi)⟩
      refine ⟨b, off, _, c, h1, hpos, hl, ?_, h4⟩
      rw [hc _ (by omega), ← h5]
      unfold lastTo
      rw [if_neg (by omega)]
  have hv : nimV n l = if tl n ≤ l then numV (tl n) 0 else numV 0 10 := by
    unfold nimV nimW
    by_cases h : tl n ≤ l
    · rw [if_pos h, decide_eq_true (show 0 < n ∧ tl n ≤ l from ⟨by omega, h⟩)]; rfl
    · rw [if_neg h, decide_eq_false (fun hh => h hh.2)]; rfl
  rw [hv]
  clear hv
  generalize tl n = t at *
  have h60' : (60 : Int) < (n : Int) := by omega
  by_cases h : t ≤ l
  · rw [if_pos h]
    have h' : (t : Int) ≤ (l : Int) := by omega
    go_enter Try.func20, Try.ntmps20
    go_wp2_with (go_at_call 46; refine (P.out _).mono ?_; rintro e w2 ⟨b, off, k, c, rfl, hk0, hk58, hx, hb2⟩; replace hb2 := Lib.hid hb2; have z1 : (0 : Int) ≤ (k : Int) - 1 := (by omega); have z2 : ((k : Int) - 1).toNat = k - 1 := (by omega); have z3 : (k : Int) - 1 < (k : Int) := (by omega))
    go_ret2
    exact Ret.mk rfl hb2.out
  · rw [if_neg h]
    have h' : (l : Int) < (t : Int) := by omega
    go_enter Try.func20, Try.ntmps20
    go_wp2_with (go_at_call 46; refine (P.out _).mono ?_; rintro e w2 ⟨b, off, k, c, rfl, hk0, hk58, hx, hb2⟩; replace hb2 := Lib.hid hb2; have z1 : (0 : Int) ≤ (k : Int) - 1 := (by omega); have z2 : ((k : Int) - 1).toNat = k - 1 := (by omega); have z3 : (k : Int) - 1 < (k : Int) := (by omega))
    go_ret2
    exact Ret.mk rfl hb2.out
theorem refNim_yes (n l : Nat) (w : World) (hn : n ≤ 1099511627776) (hl : l ≤ 1099511627776) : Calls Try.prog 20 #[.int .i64 (n : Int), .int .i64 (l : Int)] w (Ret (nimV n l) w) := by
  by_cases h : n ≤ 60
  · exact refNim_small n l w h hl
  · exact refNim_big n l w (by omega) hn hl
theorem refNim_no (n l : Int) (w : World) (h : ¬ (HeapP n ∧ HeapP l)) : Calls Try.prog 20 #[.int .i64 n, .int .i64 l] w (Only (numV 0 2) w) := by
  rcases not_heaps h with h1 | ⟨h1, h2⟩ | ⟨h1, h2, h3⟩ | ⟨h1, h2, h3, h4⟩
  all_goals
    clear h
    go_enter Try.func20, Try.ntmps20
    go_wp2
    go_ret2
    exact Only.mk rfl
theorem refWhole_yes (n : Nat) (w : World) (h2 : 2 ≤ n) (hn : n ≤ 1099511627776) : Calls Try.prog 22 #[.int .i64 (n : Int)] w (Ret (nimV n (n - 1)) w) := by
  have N := fun W => refNim_yes n (n - 1) W hn (by omega)
  rw [show (((n - 1 : Nat) : Nat) : Int) = (n : Int) - 1 by omega] at N
  obtain ⟨x, e, hx⟩ := nimV_num n (n - 1)
  rw [hx] at N ⊢
  clear hx
  replace N := Lib.hid N
  have h2' : (2 : Int) ≤ (n : Int) := by omega
  go_enter Try.func22, Try.ntmps22
  go_wp2_with (go_at_call 20; (with_reducible refine (N.out _).mono ?_); rintro e w1 ⟨rfl, hb⟩; replace hb := Lib.hid hb)
  go_ret2
  exact Ret.mk rfl hb.out
theorem refWhole_no (n : Int) (w : World) (h : n < 2 ∨ 1099511627776 < n) : Calls Try.prog 22 #[.int .i64 n] w (Only (numV 0 2) w) := by
  have hc : n < 2 ∨ (2 ≤ n ∧ 1099511627776 < n) := by omega
  clear h
  rcases hc with h | ⟨h, h2⟩
  all_goals
    go_enter Try.func22, Try.ntmps22
    go_wp2
    go_ret2
    exact Only.mk rfl
end Go.Proofs.Ytdafpjapepfniaa
