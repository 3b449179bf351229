/- Layer 7, by the specification: Grundy; the laws: WagerGrundys. -/
import Derived.Test.YtdafpjapepfniaaGc
namespace Go.Proofs.Ytdafpjapepfniaa
set_option linter.unusedSimpArgs false
set_option linter.unusedVariables false
open Go Go.RowKit

theorem Grundy_no (h l : Int) (w : World) (hn : ¬ ((0 ≤ h ∧ h ≤ 200) ∧ HeapP l)) : Calls Try.prog 36 #[.int .i64 h, .int .i64 l] w (Only (numV 0 2) w) := by
  by_cases h1 : h < 0
  · clear hn
    go_enter Try.func36, Try.ntmps36
    go_wp2
    go_ret2
    exact Only.mk rfl
  · by_cases h2 : 200 < h
    · have h1' : 0 ≤ h := by omega
      clear hn
      go_enter Try.func36, Try.ntmps36
      go_wp2
      go_ret2
      exact Only.mk rfl
    · have h1' : 0 ≤ h := by omega
      have h2' : h ≤ 200 := by omega
      have H := isHeap_any l
      rw [decide_eq_false (show ¬ HeapP l from fun h3 => hn ⟨⟨h1', h2'⟩, h3⟩)] at H
      replace H := Lib.hid H
      clear hn
      go_enter Try.func36, Try.ntmps36
      go_wp2_with (go_at_call 44; (with_reducible refine (H.out _).mono ?_); rintro e w1 ⟨rfl, rfl⟩)
      go_ret2
      exact Only.mk rfl
theorem refGrundy_no (h l : Int) (w : World) (hn : ¬ ((0 ≤ h ∧ h ≤ 200) ∧ HeapP l)) : Calls Try.prog 37 #[.int .i64 h, .int .i64 l] w (Only (numV 0 2) w) := by
  have hc : h < 0 ∨ (0 ≤ h ∧ 200 < h) ∨ (0 ≤ h ∧ h ≤ 200 ∧ l < 0) ∨ (0 ≤ h ∧ h ≤ 200 ∧ 0 ≤ l ∧ 1099511627776 < l) := by unfold HeapP at hn; omega
  clear hn
  rcases hc with h1 | ⟨h1, h2⟩ | ⟨h1, h2, h3⟩ | ⟨h1, h2, h3, h4⟩
  all_goals
    go_enter Try.func37, Try.ntmps37
    go_wp2
    go_ret2
    exact Only.mk rfl
theorem refGrundy_yes (h l : Nat) (w : World) (hh : h ≤ 200) (hl : l ≤ 1099511627776) : Calls Try.prog 37 #[.int .i64 (h : Int), .int .i64 (l : Int)] w (Ret (numV ((gr h (min l h) : Nat) : Int) 0) w) := by
  obtain ⟨m, hm⟩ : ∃ m, min l h = m := ⟨_, rfl⟩
  rw [hm]
  have em : min (h : Int) (l : Int) = (m : Int) := by omega
  have hmh : m ≤ h := by omega
  clear hm
  have T := Lib.hid (fun W => table_any h W hh)
  unfold TableR at T
  obtain ⟨N, hN⟩ : ∃ N, h + 1 = N := ⟨_, rfl⟩
  rw [hN] at T
  have hhN : (h : Int) < (N : Int) := by omega
  have hmN : (m : Int) < (N : Int) := by omega
  obtain ⟨v, hv⟩ : ∃ v, Hid (gr h m = v) := ⟨_, Lib.hid rfl⟩
  rw [hv.out]
  go_enter Try.func37, Try.ntmps37
  go_wp2_with (go_at_call 50; refine (T.out _).mono ?_; rintro e w1 ⟨B, C, g, c, rfl, f1, f2, hb⟩; replace hb := Lib.hid hb; have x0 := f1 h (by omega); have x1 := f2 h m (by omega) hmh; rw [hN] at x0; rw [hv.out] at x1; clear f1 f2)
  go_ret2
  exact Ret.mk rfl hb.out
set_option maxRecDepth 100000 in
set_option maxHeartbeats 4000000 in
theorem grundys_law (a0 b0 : Int) (w : World) : Calls Try.prog 7 #[.int .i64 a0, .int .i64 b0] w (Ret (.bool true) w) := by
  have AL := Lib.hid alive_any
  by_cases h : (0 ≤ a0 ∧ a0 ≤ 200) ∧ HeapP b0
  · obtain ⟨⟨a1, a2⟩, b1, b2⟩ := h
    obtain ⟨a, rfl⟩ : ∃ a : Nat, a0 = a := ⟨a0.toNat, by omega⟩
    obtain ⟨b, rfl⟩ : ∃ b : Nat, b0 = b := ⟨b0.toNat, by omega⟩
    have ha : a ≤ 200 := by omega
    have hb : b ≤ 1099511627776 := by omega
    clear a1 a2 b1 b2
    have E := fun W => Grundy_yes a b W ha hb
    have F := fun W => refGrundy_yes a b W ha hb
    generalize gr a (min b a) = v at *
    replace E := Lib.hid E
    replace F := Lib.hid F
    go_enter Try.func7, Try.ntmps7
    go_wp2_with (first
      | (go_at_call 36; refine (E.out _).mono ?_; rintro e w2 ⟨rfl, hb2⟩; replace hb2 := Lib.hid hb2)
      | (go_at_call 37; (with_reducible refine (F.out _).mono ?_); rintro e w3 ⟨rfl, hb3⟩; replace hb2 := Lib.hid (nextB hb2.out hb3))
      | (go_at_call 23; refine (AL.out _).mono ?_; rintro e w6 ⟨rfl, hb6⟩))
    go_ret
    exact Ret.mk rfl (nextB hb2.out hb6)
  · have E := Lib.hid (fun W => Grundy_no a0 b0 W h)
    have F := Lib.hid (fun W => refGrundy_no a0 b0 W h)
    clear h
    go_enter Try.func7, Try.ntmps7
    go_wp2_with (first
      | (go_at_call 36; (with_reducible refine (E.out _).mono ?_); rintro e w2 ⟨rfl, rfl⟩)
      | (go_at_call 37; (with_reducible refine (F.out _).mono ?_); rintro e w3 ⟨rfl, rfl⟩)
      | (go_at_call 23; refine (AL.out _).mono ?_; rintro e w7 ⟨rfl, hb7⟩))
    go_ret
    exact Ret.mk rfl hb7
end Go.Proofs.Ytdafpjapepfniaa
