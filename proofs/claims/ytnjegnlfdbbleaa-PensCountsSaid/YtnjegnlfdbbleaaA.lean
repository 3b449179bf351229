/- Layer 1, the functions without loops: what each returns. -/
import Derived.Test.YtnjegnlfdbbleaaProg
import Derived.Test.YtnjegnlfdbbleaaPl
import Derived.WalkKit
import Derived.WalkSpells
import Derived.WalkLawsBesides
namespace Go.Proofs.Ytnjegnlfdbbleaa
open Go Go.RowKit

set_option maxHeartbeats 400000 in
theorem cross_any (a0 a1 b0 b1 c0 c1 : Int) (w : World) (ha : Sm 1048576 (a0, a1)) (hb : Sm 1048576 (b0, b1)) (hc : Sm 1048576 (c0, c1)) :
    Calls Try.prog 58 #[.agg #[.int .i64 a0, .int .i64 a1], .agg #[.int .i64 b0, .int .i64 b1], .agg #[.int .i64 c0, .int .i64 c1]] w
      (Ret (.int .i64 (crossI (a0, a1) (b0, b1) (c0, c1))) w) := by
  obtain ⟨ha0, ha0', ha1, ha1'⟩ := ha
  obtain ⟨hb0, hb0', hb1, hb1'⟩ := hb
  obtain ⟨hc0, hc0', hc1, hc1'⟩ := hc
  simp only [] at *
  obtain ⟨hp1, hp2⟩ := mul_bd (x := b0 - a0) (y := c1 - a1) (X := 2097152) (Y := 2097152) (by omega) (by omega) (by omega) (by omega)
  obtain ⟨hq1, hq2⟩ := mul_bd (x := b1 - a1) (y := c0 - a0) (X := 2097152) (Y := 2097152) (by omega) (by omega) (by omega) (by omega)
  go_enter Try.func58, Try.ntmps58
  go_wp2
  go_ret
  exact Ret.mk rfl (b3 _ _ _ _)

set_option maxHeartbeats 400000 in
theorem turn_any (a0 a1 b0 b1 c0 c1 : Int) (w : World) (ha : Sm 1048576 (a0, a1)) (hb : Sm 1048576 (b0, b1)) (hc : Sm 1048576 (c0, c1)) :
    Calls Try.prog 52 #[.agg #[.int .i64 a0, .int .i64 a1], .agg #[.int .i64 b0, .int .i64 b1], .agg #[.int .i64 c0, .int .i64 c1]] w
      (Ret (.int .i64 (crossI (a0, a1) (b0, b1) (c0, c1))) w) := by
  obtain ⟨ha0, ha0', ha1, ha1'⟩ := ha
  obtain ⟨hb0, hb0', hb1, hb1'⟩ := hb
  obtain ⟨hc0, hc0', hc1, hc1'⟩ := hc
  simp only [] at *
  obtain ⟨hp1, hp2⟩ := mul_bd (x := b0 - a0) (y := c1 - a1) (X := 2097152) (Y := 2097152) (by omega) (by omega) (by omega) (by omega)
  obtain ⟨hq1, hq2⟩ := mul_bd (x := b1 - a1) (y := c0 - a0) (X := 2097152) (Y := 2097152) (by omega) (by omega) (by omega) (by omega)
  go_enter Try.func52, Try.ntmps52
  go_wp2
  go_ret
  exact Ret.mk rfl (b3 _ _ _ _)

set_option maxHeartbeats 800000 in
theorem on_any (a0 a1 b0 b1 c0 c1 : Int) (w : World) (ha : Sm 1048576 (a0, a1)) (hb : Sm 1048576 (b0, b1)) (hc : Sm 1048576 (c0, c1)) :
    Calls Try.prog 36 #[.agg #[.int .i64 a0, .int .i64 a1], .agg #[.int .i64 b0, .int .i64 b1], .agg #[.int .i64 c0, .int .i64 c1]] w
      (Ret (.bool (decide (OnP (a0, a1) (b0, b1) (c0, c1)))) w) := by
  go_enter Try.func36, Try.ntmps36
  go_wp2_with (go_at_call 58; refine (cross_any a0 a1 b0 b1 c0 c1 _ ha hb hc).mono ?_; rintro e w1 ⟨rfl, hb1⟩; obtain ⟨hc1, hf1⟩ := bcell hb1)
  all_goals go_ret
  all_goals exact Ret.mk (ret_dec (by simp only [decide_eq_true_eq, Bool.false_eq_true, false_iff, true_iff, OnP]; omega)) (nextB (b3 _ _ _ _) hb1)

set_option maxHeartbeats 800000 in
theorem onSide_any (c0 c1 a0 a1 b0 b1 : Int) (w : World) (ha : Sm 1048576 (a0, a1)) (hb : Sm 1048576 (b0, b1)) (hc : Sm 1048576 (c0, c1)) :
    Calls Try.prog 63 #[.agg #[.int .i64 c0, .int .i64 c1], .agg #[.int .i64 a0, .int .i64 a1], .agg #[.int .i64 b0, .int .i64 b1]] w
      (Ret (.bool (decide (OnP (a0, a1) (b0, b1) (c0, c1)))) w) := by
  go_enter Try.func63, Try.ntmps63
  go_wp2_with (go_at_call 52; refine (turn_any a0 a1 b0 b1 c0 c1 _ ha hb hc).mono ?_; rintro e w1 ⟨rfl, hb1⟩; obtain ⟨hc1, hf1⟩ := bcell hb1)
  all_goals go_ret
  all_goals exact Ret.mk (ret_dec (by simp only [decide_eq_true_eq, Bool.false_eq_true, false_iff, true_iff, OnP]; omega)) (nextB (b3 _ _ _ _) hb1)

theorem sign_any (n : Int) (w : World) : Calls Try.prog 59 #[.int .i64 n] w (Ret (.int .i64 (sgn n)) w) := by
  by_cases h1 : 0 < n
  · go_enter Try.func59, Try.ntmps59
    go_wp2
    go_ret
    exact Ret.mk (by rw [sgn_p h1]; rfl) (Below.refl _ _)
  · by_cases h2 : n < 0
    · go_enter Try.func59, Try.ntmps59
      go_wp2
      go_ret
      exact Ret.mk (by rw [sgn_n h2]; rfl) (Below.refl _ _)
    · go_enter Try.func59, Try.ntmps59
      go_wp2
      go_ret
      exact Ret.mk (by rw [sgn_z (by omega) (by omega)]; rfl) (Below.refl _ _)

theorem within_any (a0 a1 m : Int) (w : World) (h0 : 0 ≤ m) (h1 : m ≤ 9223372036854775807) :
    Calls Try.prog 47 #[.agg #[.int .i64 a0, .int .i64 a1], .int .i64 m] w (Ret (.bool (decide (Sm m (a0, a1)))) w) := by
  go_enter Try.func47, Try.ntmps47
  go_wp2
  all_goals go_ret
  all_goals exact Ret.mk (ret_dec (by simp only [decide_eq_true_eq, Bool.false_eq_true, false_iff, true_iff, Sm]; omega)) (b1 _ _)

theorem inRange_any (a0 a1 : Int) (w : World) :
    Calls Try.prog 31 #[.agg #[.int .i64 a0, .int .i64 a1]] w (Ret (.bool (decide (Sm 50 (a0, a1)))) w) := by
  go_enter Try.func31, Try.ntmps31
  go_wp2
  all_goals go_ret
  all_goals exact Ret.mk (ret_dec (by simp only [decide_eq_true_eq, Bool.false_eq_true, false_iff, true_iff, Sm]; omega)) (b1 _ _)

end Go.Proofs.Ytnjegnlfdbbleaa
