/- Layer 7, the laws: WagerPlayed. -/
import Derived.Test.YtdafpjapepfniaaWx
namespace Go.Proofs.Ytdafpjapepfniaa
set_option linter.unusedSimpArgs false
set_option linter.unusedVariables false
open Go Go.RowKit

theorem nimW_cap {n l : Nat} (hn : n ≤ 1099511627776) : nimW n (min l 1099511627776) = nimW n l := by
  rw [← nimW_min n (min l 1099511627776), ← nimW_min n l, show min (min l 1099511627776) n = min l n by omega]
theorem played {m l x : Nat} (hm : m ≤ 1099511627776) (h0 : 1 ≤ x) (h1 : x ≤ m) (h2 : x ≤ l) (h : nimW (m - x) (min (2 * x) 1099511627776) = false) : nimW m l = true ∧ tl m ≤ x := by
  rw [nimW_cap (by omega)] at h
  refine ⟨(nimW_iff m l).2 ⟨x, by omega, h1, h2, h⟩, Nat.le_of_not_lt fun hlt => ?_⟩
  rw [nim_least m x (by omega) hlt] at h
  cases h
set_option maxRecDepth 100000 in
set_option maxHeartbeats 4000000 in
theorem played_law (n l0 o : Nat) (w : World) (h1 : n ≤ 18446744073709551615) (h2 : l0 ≤ 18446744073709551615) (h3 : o ≤ 18446744073709551615) :
    Calls Try.prog 10 #[.int .u64 (n : Int), .int .u64 (l0 : Int), .int .u64 (o : Int)] w (Ret (.bool true) w) := by
  have A1 := Lib.hid (fun W => heap_any n W h1)
  have A2 := Lib.hid (fun W => heap_any l0 W h2)
  have hm := hpN_le n
  have hl := hpN_le l0
  generalize hpN n = m at *
  generalize hpN l0 = l at *
  have N := Lib.hid (fun a b W ha hb => Nim_yes a b W ha hb)
  have K1 := Lib.hid (fun W => Nim_yes m l W hm hl)
  have AL := Lib.hid alive_any
  have hmin := min_i m l
  by_cases hz : min m l = 0
  · have hw : nimW m l = false := by
      unfold nimW
      rw [decide_eq_false_iff_not]
      intro h
      have := (tl_le m h.1).1
      omega
    have hv : nimV m l = numV 0 10 := by unfold nimV; rw [hw]; rfl
    rw [hv] at K1
    rw [hz] at hmin
    clear hz hv hw N
    go_enter Try.func10, Try.ntmps10
    go_wp2_with (first
      | (go_at_call 38; (with_reducible refine (A1.out _).mono ?_); rintro e w1 ⟨rfl, rfl⟩)
      | (go_at_call 38; (with_reducible refine (A2.out _).mono ?_); rintro e w1 ⟨rfl, rfl⟩)
      | (go_at_call 19; (with_reducible refine (K1.out _).mono ?_); rintro e w2 ⟨rfl, hb2⟩; replace hb2 := Lib.hid hb2)
      | (go_at_call 23; refine (AL.out _).mono ?_; rintro e w3 ⟨rfl, hb3⟩))
    go_ret
    exact Ret.mk rfl (nextB hb2.out hb3)
  · have hr : o % min m l < min m l := Nat.mod_lt _ (by omega)
    have er := mod_i o (min m l)
    obtain ⟨M, hM⟩ : ∃ M, Hid (min m l = M) := ⟨_, Lib.hid rfl⟩
    rw [hM.out] at hr er hmin
    have hMm : M ≤ m ∧ M ≤ l := by have := hM.out; omega
    obtain ⟨hMm, hMl⟩ := hMm
    obtain ⟨r, hrr⟩ : ∃ r, Hid (o % M = r) := ⟨_, Lib.hid rfl⟩
    rw [hrr.out] at hr er
    have hP := Lib.hid (played (m := m) (l := l) (x := 1 + r) hm (by omega) (by omega) (by omega))
    have K3 := N.out (m - (1 + r)) (min (2 * (1 + r)) 1099511627776)
    have e3 : (((m - (1 + r) : Nat) : Nat) : Int) = (m : Int) - (1 + (r : Int)) := by omega
    have e4 : min (2 * (1 + (r : Int))) 1099511627776 = ((min (2 * (1 + r)) 1099511627776 : Nat) : Int) := by omega
    have hu4 : min (2 * (1 + r)) 1099511627776 ≤ 1099511627776 := by omega
    have hM0 : 0 < M := by omega
    have hM0' : ((M : Int) == 0) = false := by rw [beq_eq_false_iff_ne]; omega
    rw [e3] at K3
    have hV3 : nimV (m - (1 + r)) (min (2 * (1 + r)) 1099511627776) = if nimW (m - (1 + r)) (min (2 * (1 + r)) 1099511627776) then numV (tl (m - (1 + r))) 0 else numV 0 10 := rfl
    rw [hV3] at K3
    have ht3 := tl_bd (m - (1 + r))
    generalize tl (m - (1 + r)) = t3 at *
    generalize min (2 * (1 + r)) 1099511627776 = u4 at *
    replace K3 := Lib.hid (fun W => K3 W (by omega) hu4)
    clear hz hM hrr e3 hV3
    cases hw : nimW m l
    · have hv : nimV m l = numV 0 10 := by unfold nimV; rw [hw]; rfl
      rw [hv] at K1
      cases hw3 : nimW (m - (1 + r)) u4
      · exact absurd (hP.out hw3).1 (by rw [hw]; simp)
      · rw [hw3] at K3
        simp only [if_true] at K3
        clear hv hw hw3 N hP
        go_enter Try.func10, Try.ntmps10
        go_wp2_with (first
          | (go_at_call 38; (with_reducible refine (A1.out _).mono ?_); rintro e w1 ⟨rfl, rfl⟩)
          | (go_at_call 38; (with_reducible refine (A2.out _).mono ?_); rintro e w1 ⟨rfl, rfl⟩)
          | (go_at_call 19; (with_reducible refine (K1.out _).mono ?_); rintro e w2 ⟨rfl, hb2⟩; replace hb2 := Lib.hid hb2)
          | (go_at_call 19; (with_reducible refine (K3.out _).mono ?_); rintro e w3 ⟨rfl, hb3⟩; replace hb3 := Lib.hid (nextB hb2.out hb3))
          | (go_at_call 23; refine (AL.out _).mono ?_; rintro e w4 ⟨rfl, hb4⟩))
        go_ret
        exact Ret.mk rfl (nextB hb3.out hb4)
    · have hw' := hw
      unfold nimW at hw'
      rw [decide_eq_true_eq] at hw'
      obtain ⟨t1, t2⟩ := tl_le m hw'.1
      have t3l := hw'.2
      have hv : nimV m l = numV (tl m) 0 := by unfold nimV; rw [hw]; rfl
      rw [hv] at K1
      have K2 := N.out (m - tl m) (min (2 * tl m) 1099511627776)
      have hw2 : nimW (m - tl m) (min (2 * tl m) 1099511627776) = false := by rw [nimW_cap (by omega)]; exact nim_tail m hw'.1
      have hv2 : nimV (m - tl m) (min (2 * tl m) 1099511627776) = numV 0 10 := by unfold nimV; rw [hw2]; rfl
      rw [hv2] at K2
      have hP2 : Hid (nimW (m - (1 + r)) u4 = false → tl m ≤ 1 + r) := Lib.hid (fun h => (hP.out h).2)
      clear hv hv2 hw2 hw' hw hP
      generalize tl m = t at *
      have e5 : (((m - t : Nat) : Nat) : Int) = (m : Int) - (t : Int) := by omega
      have e6 : min (2 * (t : Int)) 1099511627776 = ((min (2 * t) 1099511627776 : Nat) : Int) := by omega
      have hu6 : min (2 * t) 1099511627776 ≤ 1099511627776 := by omega
      rw [e5] at K2
      generalize min (2 * t) 1099511627776 = u6 at *
      replace K2 := Lib.hid (fun W => K2 W (by omega) hu6)
      have y1 : (1 : Int) ≤ (t : Int) := by omega
      have y2 : (t : Int) ≤ (m : Int) := by omega
      have y3 : (t : Int) ≤ (l : Int) := by omega
      clear e5 N
      cases hw3 : nimW (m - (1 + r)) u4
      · rw [hw3] at K3
        simp only [Bool.false_eq_true, if_false] at K3
        have y4 : (t : Int) ≤ 1 + (r : Int) := by have := hP2.out hw3; omega
        clear hw3 hP2
        go_enter Try.func10, Try.ntmps10
        go_wp2_with (first
          | (go_at_call 38; (with_reducible refine (A1.out _).mono ?_); rintro e w1 ⟨rfl, rfl⟩)
          | (go_at_call 38; (with_reducible refine (A2.out _).mono ?_); rintro e w1 ⟨rfl, rfl⟩)
          | (go_at_call 19; (with_reducible refine (K1.out _).mono ?_); rintro e w2 ⟨rfl, hb2⟩; replace hb2 := Lib.hid hb2)
          | (go_at_call 19; (with_reducible refine (K2.out _).mono ?_); rintro e w5 ⟨rfl, hb5⟩; replace hb2 := Lib.hid (nextB hb2.out hb5))
          | (go_at_call 19; (with_reducible refine (K3.out _).mono ?_); rintro e w3 ⟨rfl, hb3⟩; replace hb3 := Lib.hid (nextB hb2.out hb3))
          | (go_at_call 23; refine (AL.out _).mono ?_; rintro e w4 ⟨rfl, hb4⟩))
        go_ret
        exact Ret.mk rfl (nextB hb3.out hb4)
      · rw [hw3] at K3
        simp only [if_true] at K3
        clear hw3 hP2
        go_enter Try.func10, Try.ntmps10
        go_wp2_with (first
          | (go_at_call 38; (with_reducible refine (A1.out _).mono ?_); rintro e w1 ⟨rfl, rfl⟩)
          | (go_at_call 38; (with_reducible refine (A2.out _).mono ?_); rintro e w1 ⟨rfl, rfl⟩)
          | (go_at_call 19; (with_reducible refine (K1.out _).mono ?_); rintro e w2 ⟨rfl, hb2⟩; replace hb2 := Lib.hid hb2)
          | (go_at_call 19; (with_reducible refine (K2.out _).mono ?_); rintro e w5 ⟨rfl, hb5⟩; replace hb2 := Lib.hid (nextB hb2.out hb5))
          | (go_at_call 19; (with_reducible refine (K3.out _).mono ?_); rintro e w3 ⟨rfl, hb3⟩; replace hb3 := Lib.hid (nextB hb2.out hb3))
          | (go_at_call 23; refine (AL.out _).mono ?_; rintro e w4 ⟨rfl, hb4⟩))
        go_ret
        exact Ret.mk rfl (nextB hb3.out hb4)
end Go.Proofs.Ytdafpjapepfniaa
