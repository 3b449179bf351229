/- Layer 1: turnsBack, and whether two ways meet. -/
import Derived.Test.YtnjegnlfdbbleaaB
import Derived.Lib.Hide
namespace Go.Proofs.Ytnjegnlfdbbleaa
open Go Go.RowKit
def aheadI (a b c : Int × Int) : Int := (b.1 - a.1) * (c.1 - b.1) + (b.2 - a.2) * (c.2 - b.2)
/-- The way from b to c leads back over the one from a to b. -/
def BackP (a b c : Int × Int) : Prop := crossI a b c = 0 ∧ aheadI a b c < 0
instance (a b c : Int × Int) : Decidable (BackP a b c) := by unfold BackP; infer_instance

set_option maxHeartbeats 800000 in
theorem turnsBack_any (a0 a1 b0 b1 c0 c1 : Int) (w : World) (ha : Sm 1048576 (a0, a1)) (hb : Sm 1048576 (b0, b1)) (hc : Sm 1048576 (c0, c1)) :
    Calls Try.prog 69 #[.agg #[.int .i64 a0, .int .i64 a1], .agg #[.int .i64 b0, .int .i64 b1], .agg #[.int .i64 c0, .int .i64 c1]] w
      (Ret (.bool (decide (BackP (a0, a1) (b0, b1) (c0, c1)))) w) := by
  have H := turn_any a0 a1 b0 b1 c0 c1
  obtain ⟨ha0, ha0', ha1, ha1'⟩ := id ha
  obtain ⟨hb0, hb0', hb1, hb1'⟩ := id hb
  obtain ⟨hc0, hc0', hc1, hc1'⟩ := id hc
  simp only [] at *
  obtain ⟨hp1, hp2⟩ := mul_bd (x := b0 - a0) (y := c0 - b0) (X := 2097152) (Y := 2097152) (by omega) (by omega) (by omega) (by omega)
  obtain ⟨hq1, hq2⟩ := mul_bd (x := b1 - a1) (y := c1 - b1) (X := 2097152) (Y := 2097152) (by omega) (by omega) (by omega) (by omega)
  go_enter Try.func69, Try.ntmps69
  go_wp2_with (go_at_call 52; refine (turn_any a0 a1 b0 b1 c0 c1 _ ha hb hc).mono ?_; rintro e w1 ⟨rfl, hb1⟩; obtain ⟨hc1, hf1⟩ := bcell hb1)
  all_goals go_ret
  all_goals exact Ret.mk (ret_dec (by simp only [decide_eq_true_eq, Bool.false_eq_true, false_iff, true_iff, BackP, aheadI]; omega)) (nextB (b3 _ _ _ _) hb1)

set_option maxHeartbeats 1600000 in
theorem pmeet_any (a0 a1 b0 b1 c0 c1 d0 d1 : Int) (w : World) (ha : Sm 1048576 (a0, a1)) (hb : Sm 1048576 (b0, b1)) (hc : Sm 1048576 (c0, c1)) (hd : Sm 1048576 (d0, d1)) :
    Calls Try.prog 70 #[.agg #[.int .i64 a0, .int .i64 a1], .agg #[.int .i64 b0, .int .i64 b1], .agg #[.int .i64 c0, .int .i64 c1], .agg #[.int .i64 d0, .int .i64 d1]] w
      (Ret (.bool (decide (MeetP (a0, a1) (b0, b1) (c0, c1) (d0, d1)))) w) := by
  go_enter Try.func70, Try.ntmps70
  go_wp2_with fail
  obtain ⟨B0, K0, K1, K2, K3⟩ := box4 w 65 a0 a1 b0 b1 c0 c1 d0 d1 _ rfl
  go_wp2_with (go_at_call 63; refine (onSide_any _ _ _ _ _ _ _ (by assumption) (by assumption) (by assumption)).mono ?_; rintro e w1 ⟨rfl, hb1⟩; replace B0 := nextB B0 hb1; replace K0 := K0.next hb1; replace K1 := K1.next hb1; replace K2 := K2.next hb1; replace K3 := K3.next hb1; obtain ⟨e00, e01⟩ := id K0; obtain ⟨e10, e11⟩ := id K1; obtain ⟨e20, e21⟩ := id K2; obtain ⟨e30, e31⟩ := id K3)
  all_goals first | (go_ret; exact Ret.mk (ret_dec (by simp [MeetP, *])) B0) | skip
  have hM : MeetP (a0, a1) (b0, b1) (c0, c1) (d0, d1) ↔ (Opp (crossI (a0, a1) (b0, b1) (c0, c1)) (crossI (a0, a1) (b0, b1) (d0, d1)) ∧ Opp (crossI (c0, c1) (d0, d1) (a0, a1)) (crossI (c0, c1) (d0, d1) (b0, b1))) := by simp only [MeetP, *, false_or]
  have HM := Lib.hid hM
  clear hM
  have x00 := cellX e00
  have x01 := cellX e01
  have x10 := cellX e10
  have x11 := cellX e11
  have x20 := cellX e20
  have x21 := cellX e21
  have x30 := cellX e30
  have x31 := cellX e31
  cases g5 : decide (Opp (crossI (a0, a1) (b0, b1) (c0, c1)) (crossI (a0, a1) (b0, b1) (d0, d1)))
  all_goals
    have D := fun W => differ_any (crossI (a0, a1) (b0, b1) (c0, c1)) (crossI (a0, a1) (b0, b1) (d0, d1)) W
    rw [g5] at D
    refine wp_region_ext (by kernel_rfl) (by kernel_rfl) ?_
    repeat (go_big_quiet_step (first | (go_at_call 52; exact callE (turn_any _ _ _ _ _ _ _ (by assumption) (by assumption) (by assumption))) | (go_at_call 79; with_reducible exact callE (D _)) | (go_at_call 79; exact callE (differ_any _ _ _))))
    refine wpQuiet_nil ?_
    intro x
    go_wp2
    go_ret
    refine Ret.mk (ret_dec ?_) (nextB B0 x.ok)
    rw [HM.out]
    simp only [decide_eq_true_eq, decide_eq_false_iff_not] at g5
    simp [g5]

set_option maxHeartbeats 1600000 in
theorem rmeet_any (a0 a1 b0 b1 c0 c1 d0 d1 : Int) (w : World) (ha : Sm 1048576 (a0, a1)) (hb : Sm 1048576 (b0, b1)) (hc : Sm 1048576 (c0, c1)) (hd : Sm 1048576 (d0, d1)) :
    Calls Try.prog 37 #[.agg #[.int .i64 a0, .int .i64 a1], .agg #[.int .i64 b0, .int .i64 b1], .agg #[.int .i64 c0, .int .i64 c1], .agg #[.int .i64 d0, .int .i64 d1]] w
      (Ret (.bool (decide (MeetP (a0, a1) (b0, b1) (c0, c1) (d0, d1)))) w) := by
  go_enter Try.func37, Try.ntmps37
  go_wp2_with fail
  obtain ⟨B0, K0, K1, K2, K3⟩ := box4 w 32 a0 a1 b0 b1 c0 c1 d0 d1 _ rfl
  go_wp2_with (go_at_call 36; refine (on_any _ _ _ _ _ _ _ (by assumption) (by assumption) (by assumption)).mono ?_; rintro e w1 ⟨rfl, hb1⟩; replace B0 := nextB B0 hb1; replace K0 := K0.next hb1; replace K1 := K1.next hb1; replace K2 := K2.next hb1; replace K3 := K3.next hb1; obtain ⟨e00, e01⟩ := id K0; obtain ⟨e10, e11⟩ := id K1; obtain ⟨e20, e21⟩ := id K2; obtain ⟨e30, e31⟩ := id K3)
  all_goals first | (go_ret; exact Ret.mk (ret_dec (by simp [MeetP, *])) B0) | skip
  have hM : MeetP (a0, a1) (b0, b1) (c0, c1) (d0, d1) ↔ (Opp (crossI (a0, a1) (b0, b1) (c0, c1)) (crossI (a0, a1) (b0, b1) (d0, d1)) ∧ Opp (crossI (c0, c1) (d0, d1) (a0, a1)) (crossI (c0, c1) (d0, d1) (b0, b1))) := by simp only [MeetP, *, false_or]
  have HM := Lib.hid hM
  clear hM
  have x00 := cellX e00
  have x01 := cellX e01
  have x10 := cellX e10
  have x11 := cellX e11
  have x20 := cellX e20
  have x21 := cellX e21
  have x30 := cellX e30
  have x31 := cellX e31
  have s1 := sgn_bd (crossI (a0, a1) (b0, b1) (c0, c1)) (crossI (a0, a1) (b0, b1) (d0, d1))
  have s2 := sgn_bd (crossI (c0, c1) (d0, d1) (a0, a1)) (crossI (c0, c1) (d0, d1) (b0, b1))
  obtain ⟨s1a, s1b, s1c⟩ := s1
  obtain ⟨s2a, s2b, s2c⟩ := s2
  have S1 := Lib.hid s1c
  have S2 := Lib.hid s2c
  clear s1c s2c
  cases g5 : decide (sgn (crossI (a0, a1) (b0, b1) (c0, c1)) * sgn (crossI (a0, a1) (b0, b1) (d0, d1)) < 0)
  all_goals
    refine wp_region_ext (by kernel_rfl) (by kernel_rfl) ?_
    repeat (go_big_quiet_step (first | (go_at_call 58; exact callE (cross_any _ _ _ _ _ _ _ (by assumption) (by assumption) (by assumption))) | (go_at_call 59; exact callE (sign_any _ _))))
    refine wpQuiet_nil ?_
    intro x
    go_wp2
    go_ret
    refine Ret.mk (ret_dec ?_) (nextB B0 x.ok)
    rw [HM.out, ← S1.out, ← S2.out]
    simp only [decide_eq_true_eq, decide_eq_false_iff_not] at g5
    simp [g5]
end Go.Proofs.Ytnjegnlfdbbleaa
