/- Layer 8, the specification: isNext, isEnd, asked. -/
import Derived.Test.YtniknldeafmgaaaJa
namespace Go.Proofs.Ytniknldeafmgaaa
set_option linter.unusedSimpArgs false
set_option linter.unusedVariables false
open Go Go.RowKit

theorem ints_row {w : World} {ad : Option Addr} {a : Nat} {g : Nat → Nat} (h : Ints w ad (stL a g)) (ha : 1 ≤ a) : ∃ B off, ad = some ⟨B, off, none⟩ ∧ ∀ i, i < a → w.cell? ⟨B, off + i, none⟩ = some (.int .i64 (g i : Int)) := by
  obtain ⟨B, off, h1, h2⟩ := ints_at h (by rw [stL_len]; omega)
  refine ⟨B, off, h1, fun i hi => ?_⟩
  rw [h2 i (by rw [stL_len]; exact hi), stL_nth _ hi]
theorem refNext_any (a b : Nat) (g : Nat → Nat) (i j : Nat) (ad : Option Addr) (c : Nat) (w : World) (hp : IsP a b g) (hI : Ints w ad (stL a g)) (hi : i < a) (hj : j < b) :
    Calls Try.prog 66 #[.slice ad a c, .int .i64 (i : Int), .int .i64 (j : Int)] w (Only (.bool (decide (nxt b g i j))) w) := by
  have ha6 := hp.a6
  obtain ⟨B, off, rfl, hcell⟩ := ints_row hI hp.a1
  have x0 := hcell i hi
  have hi' : (i : Int) < (a : Int) := by omega
  have hg := hp.gb
  by_cases e : g i = j
  · have d1 : ((g i : Int) == (j : Int)) = true := by rw [beq_iff_eq]; omega
    by_cases h0 : i = 0
    · have d2 : ((i : Int) == 0) = true := by rw [beq_iff_eq]; omega
      have hr : decide (nxt b g i j) = true := decide_eq_true (by unfold nxt mo; rw [if_pos h0]; omega)
      rw [hr]
      clear hr hcell e h0 hg hp
      go_enter Try.func66, Try.ntmps66
      go_wp2
      go_ret
      exact Only.mk rfl
    · have d2 : ((i : Int) == 0) = false := by rw [beq_eq_false_iff_ne]; omega
      have x1 := hcell (i - 1) (by omega)
      have y0 : (0 : Int) ≤ (i : Int) - 1 := by omega
      have y1 : ((i : Int) - 1).toNat = i - 1 := by omega
      have y2 : (i : Int) - 1 < (a : Int) := by omega
      have hr : nxt b g i j ↔ (j : Int) < (g (i - 1) : Int) := by unfold nxt mo; rw [if_neg h0]; omega
      replace hr := Lib.hid hr
      generalize g (i - 1) = y at *
      replace h0 := Lib.hid h0
      replace e := Lib.hid e
      clear hcell hg hp
      go_enter Try.func66, Try.ntmps66
      go_wp2
      all_goals go_ret
      all_goals exact Only.mk (ret_dec (by simp only [decide_eq_true_eq, Bool.false_eq_true, false_iff]; first | exact hr.out.symm | (rw [hr.out]; omega)))
  · have d1 : ((g i : Int) == (j : Int)) = false := by rw [beq_eq_false_iff_ne]; omega
    have hr : decide (nxt b g i j) = false := decide_eq_false (by unfold nxt; omega)
    rw [hr]
    clear hr hcell e hg hp
    go_enter Try.func66, Try.ntmps66
    go_wp2
    go_ret
    exact Only.mk rfl
theorem refEnd_any (a b : Nat) (g : Nat → Nat) (i j : Nat) (ad : Option Addr) (c : Nat) (w : World) (hp : IsP a b g) (hI : Ints w ad (stL a g)) (hi : i < a) (hj : j ≤ 1000) :
    Calls Try.prog 51 #[.slice ad a c, .int .i64 (i : Int), .int .i64 (j : Int)] w (Only (.bool (decide (enf a g i j))) w) := by
  have ha6 := hp.a6
  obtain ⟨B, off, rfl, hcell⟩ := ints_row hI hp.a1
  have x0 := hcell i hi
  have hi' : (i : Int) < (a : Int) := by omega
  by_cases e : g i = j + 1
  · have d1 : ((g i : Int) == (j : Int) + 1) = true := by rw [beq_iff_eq]; omega
    by_cases h0 : i + 1 = a
    · have d2 : ((i : Int) == (a : Int) - 1) = true := by rw [beq_iff_eq]; omega
      have hr : decide (enf a g i j) = true := decide_eq_true (by unfold enf lea; rw [if_pos h0]; omega)
      rw [hr]
      clear hr hcell e h0 hp
      go_enter Try.func51, Try.ntmps51
      go_wp2
      go_ret
      exact Only.mk rfl
    · have d2 : ((i : Int) == (a : Int) - 1) = false := by rw [beq_eq_false_iff_ne]; omega
      have x1 := hcell (i + 1) (by omega)
      have y0 : (0 : Int) ≤ (i : Int) + 1 := by omega
      have y1 : ((i : Int) + 1).toNat = i + 1 := by omega
      have y2 : (i : Int) + 1 < (a : Int) := by omega
      have hr : enf a g i j ↔ (g (i + 1) : Int) ≤ (j : Int) := by unfold enf lea; rw [if_neg h0]; omega
      replace hr := Lib.hid hr
      generalize g (i + 1) = y at *
      replace h0 := Lib.hid h0
      replace e := Lib.hid e
      clear hcell hp
      go_enter Try.func51, Try.ntmps51
      go_wp2
      all_goals go_ret
      all_goals exact Only.mk (ret_dec (by simp only [decide_eq_true_eq, Bool.false_eq_true, false_iff]; first | exact hr.out.symm | (rw [hr.out]; omega)))
  · have d1 : ((g i : Int) == (j : Int) + 1) = false := by rw [beq_eq_false_iff_ne]; omega
    have hr : decide (enf a g i j) = false := decide_eq_false (by unfold enf; omega)
    rw [hr]
    clear hr hcell e hp
    go_enter Try.func51, Try.ntmps51
    go_wp2
    go_ret
    exact Only.mk rfl
theorem asked_yes (a b : Nat) (g : Nat → Nat) (ad : Option Addr) (c : Nat) (w : World) (h : IsS a b g) (hI : Ints w ad (stL a g)) :
    Calls Try.prog 48 #[.int .i64 (a : Int), .int .i64 (b : Int), .slice ad a c] w (Ret (.int .i64 0) w) := by
  have hP : ∀ w, Calls Try.prog 42 #[.int .i64 (a : Int), .int .i64 (b : Int)] w (Only (.int .i64 0) w) := fun w => by have := Pasture_any (a : Int) (b : Int) w; rwa [show psE a b = 0 from if_pos h.p.sz] at this
  have hS := IsState_yes a b g ad c w h hI
  clear h hI
  go_enter Try.func48, Try.ntmps48
  go_wp2_with (first | (go_at_call 42; refine (hP _).mono ?_; rintro _ _ ⟨rfl, rfl⟩) | (go_at_call 41; refine hS.mono ?_; rintro _ w1 ⟨rfl, hw1⟩))
  go_ret
  exact Ret.mk rfl hw1
theorem asked_no (a b : Int) (xs : List Int) (ad : Option Addr) (n c : Nat) (w : World) (hI : Ints w ad xs) (hl : xs.length = n) (hn : n ≤ 4611686018427387904) (h : ¬ StP a b xs) :
    Calls Try.prog 48 #[.int .i64 a, .int .i64 b, .slice ad n c] w (Ret (.int .i64 2) w) := by
  rw [stP_iff] at h
  by_cases hs : SzP a b
  · have hP : ∀ w, Calls Try.prog 42 #[.int .i64 a, .int .i64 b] w (Only (.int .i64 0) w) := fun w => by have := Pasture_any a b w; rwa [show psE a b = 0 from if_pos hs] at this
    obtain ⟨V, h1, h2⟩ := IsState_any a b xs ad n c w hI hl hn
    have hV : V = false := by
      cases V
      · rfl
      · exact absurd ⟨hs, h1.1 rfl⟩ h
    subst hV
    clear h hI hl hs h1
    go_enter Try.func48, Try.ntmps48
    go_wp2_with (first | (go_at_call 42; refine (hP _).mono ?_; rintro _ _ ⟨rfl, rfl⟩) | (go_at_call 41; refine h2.mono ?_; rintro _ w1 ⟨rfl, hw1⟩))
    go_ret
    exact Ret.mk rfl hw1
  · have hP : ∀ w, Calls Try.prog 42 #[.int .i64 a, .int .i64 b] w (Only (.int .i64 2) w) := fun w => by have := Pasture_any a b w; rwa [show psE a b = 2 from if_neg hs] at this
    clear h hI hl hs
    go_enter Try.func48, Try.ntmps48
    go_wp2_with (go_at_call 42; refine (hP _).mono ?_; rintro _ _ ⟨rfl, rfl⟩)
    go_ret
    exact Ret.mk rfl (Below.refl _ _)
end Go.Proofs.Ytniknldeafmgaaa
