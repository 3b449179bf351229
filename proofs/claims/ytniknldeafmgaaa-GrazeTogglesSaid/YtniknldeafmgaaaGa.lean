/- Layer 8, by the program: pastures as values; most, least, isNext, isEnd, has, isSize. -/
import Derived.Test.YtniknldeafmgaaaNa
namespace Go.Proofs.Ytniknldeafmgaaa
set_option linter.unusedSimpArgs false
set_option linter.unusedVariables false
open Go Go.RowKit

/-- A pasture's cells. -/
abbrev pC (a b : Nat) (g : Nat → Nat) : Array Value := #[.int .i64 (a : Int), .int .i64 (b : Int), .int .i64 (g 0 : Int), .int .i64 (g 1 : Int), .int .i64 (g 2 : Int), .int .i64 (g 3 : Int), .int .i64 (g 4 : Int), .int .i64 (g 5 : Int)]
abbrev pV (a b : Nat) (g : Nat → Nat) : Value := .agg (pC a b g)
abbrev qC (x y : Int) : Array Value := #[.int .i64 x, .int .i64 y]
theorem six {P : Nat → Prop} (h0 : P 0) (h1 : P 1) (h2 : P 2) (h3 : P 3) (h4 : P 4) (h5 : P 5) (i : Nat) (hi : i < 6) : P i := by
  rcases (show i = 0 ∨ i = 1 ∨ i = 2 ∨ i = 3 ∨ i = 4 ∨ i = 5 by omega) with rfl | rfl | rfl | rfl | rfl | rfl <;> assumption
theorem pC_get (a b : Nat) (g : Nat → Nat) {i : Nat} (hi : i < 6) : (pC a b g)[2 + i]? = some (.int .i64 (g i : Int)) := by
  refine six (P := fun i => (pC a b g)[2 + i]? = some (.int .i64 (g i : Int))) ?_ ?_ ?_ ?_ ?_ ?_ i hi <;> rfl
theorem Blk.pg {W : World} {B : Nat} {t : TypeId} {a b : Nat} {g : Nat → Nat} (h : Blk W B t (pC a b g)) {i : Nat} (hi : i < 6) : W.cell? ⟨B, 2 + i, none⟩ = some (.int .i64 (g i : Int)) := h.c _ (pC_get a b g hi)
theorem Blk.pc {W : World} {B : Nat} {t : TypeId} {a b : Nat} {g : Nat → Nat} (h : Blk W B t (pC a b g)) :
    W.cell? ⟨B, 0, none⟩ = some (.int .i64 (a : Int)) ∧ W.cell? ⟨B, 1, none⟩ = some (.int .i64 (b : Int)) ∧ W.cell? ⟨B, 2, none⟩ = some (.int .i64 (g 0 : Int)) ∧ W.cell? ⟨B, 3, none⟩ = some (.int .i64 (g 1 : Int)) ∧
    W.cell? ⟨B, 4, none⟩ = some (.int .i64 (g 2 : Int)) ∧ W.cell? ⟨B, 5, none⟩ = some (.int .i64 (g 3 : Int)) ∧ W.cell? ⟨B, 6, none⟩ = some (.int .i64 (g 4 : Int)) ∧ W.cell? ⟨B, 7, none⟩ = some (.int .i64 (g 5 : Int)) :=
  ⟨h.c 0 rfl, h.c 1 rfl, h.c 2 rfl, h.c 3 rfl, h.c 4 rfl, h.c 5 rfl, h.c 6 rfl, h.c 7 rfl⟩
theorem Blk.qc {W : World} {B : Nat} {t : TypeId} {x y : Int} (h : Blk W B t (qC x y)) : W.cell? ⟨B, 0, none⟩ = some (.int .i64 x) ∧ W.cell? ⟨B, 1, none⟩ = some (.int .i64 y) := ⟨h.c 0 rfl, h.c 1 rfl⟩
/-- There can be a pasture of a rows and b columns. -/
def SzP (a b : Int) : Prop := 1 ≤ a ∧ a ≤ 6 ∧ 1 ≤ b ∧ b ≤ 6
instance (a b : Int) : Decidable (SzP a b) := by unfold SzP; infer_instance
theorem isSize_any (a b : Int) (w : World) : Calls Try.prog 70 #[.int .i64 a, .int .i64 b] w (Only (.bool (decide (SzP a b))) w) := by
  go_enter Try.func70, Try.ntmps70
  go_wp2
  all_goals go_ret
  all_goals exact Only.mk (ret_dec (by simp only [decide_eq_true_eq, Bool.false_eq_true, false_iff, SzP]; omega))
theorem most_any (a b : Nat) (g : Nat → Nat) (i : Nat) (w : World) (hp : IsP a b g) (hi : i < 6) : Calls Try.prog 74 #[pV a b g, .int .i64 (i : Int)] w (Ret (.int .i64 ((mo b g i : Nat) : Int)) w) := by
  clear hp
  revert w
  refine six (P := fun i => ∀ w, Calls Try.prog 74 #[pV a b g, .int .i64 (i : Int)] w (Ret (.int .i64 ((mo b g i : Nat) : Int)) w)) ?_ ?_ ?_ ?_ ?_ ?_ i hi
  all_goals
    intro w
    go_enter Try.func74, Try.ntmps74
    go_wp2
    go_ret
    exact Ret.mk rfl (b1 _ _)
theorem least_any (a b : Nat) (g : Nat → Nat) (i : Nat) (w : World) (hp : IsP a b g) (hi : i < a) : Calls Try.prog 76 #[pV a b g, .int .i64 (i : Int)] w (Ret (.int .i64 ((lea a g i : Nat) : Int)) w) := by
  obtain ⟨h1, h2, _, _, _⟩ := hp
  by_cases e : i + 1 = a
  · have e' : ((i : Int) == (a : Int) - 1) = true := by rw [beq_iff_eq]; omega
    have hl : lea a g i = 0 := if_pos e
    rw [hl]
    clear hl e
    go_enter Try.func76, Try.ntmps76
    go_wp2
    go_ret
    exact Ret.mk rfl (b1 _ _)
  · have e' : ((i : Int) == (a : Int) - 1) = false := by rw [beq_eq_false_iff_ne]; omega
    have hl : lea a g i = g (i + 1) := if_neg e
    rw [hl]
    have hi5 : i < 5 := by omega
    clear hl e hi
    rcases (show i = 0 ∨ i = 1 ∨ i = 2 ∨ i = 3 ∨ i = 4 by omega) with rfl | rfl | rfl | rfl | rfl
    all_goals
      go_enter Try.func76, Try.ntmps76
      go_wp2
      go_ret
      exact Ret.mk rfl (b1 _ _)
theorem isNext_any (a b : Nat) (g : Nat → Nat) (i j : Nat) (w : World) (hp : IsP a b g) (hi6 : i < 6) : Calls Try.prog 65 #[pV a b g, .agg (qC (i : Int) (j : Int))] w (Ret (.bool (decide (nxt b g i j))) w) := by
  have hm := fun w => most_any a b g i w hp hi6
  have k0 := (Blk.new w 66 (pC a b g)).alloc (.cells (qC (i : Int) (j : Int)) 31)
  have k1 := Blk.new (w.alloc (.cells (pC a b g) 66)) 31 (qC (i : Int) (j : Int))
  rw [World.size_alloc] at k1
  have B := Lib.hid (b2 w (.cells (pC a b g) 66) (.cells (qC (i : Int) (j : Int)) 31))
  replace k0 := Lib.hid k0
  replace k1 := Lib.hid k1
  go_enter Try.func65, Try.ntmps65
  go_wp2
  generalize (w.alloc (.cells (pC a b g) 66)).alloc (.cells (qC (i : Int) (j : Int)) 31) = W at *
  obtain ⟨p0, p1, p2, p3, p4, p5, p6, p7⟩ := k0.out.pc
  have pg := k0.out.pg hi6
  obtain ⟨q0, q1⟩ := k1.out.qc
  replace p0 := cellX p0
  replace p1 := cellX p1
  replace p2 := cellX p2
  replace p3 := cellX p3
  replace p4 := cellX p4
  replace p5 := cellX p5
  replace p6 := cellX p6
  replace p7 := cellX p7
  replace pg := cellX pg
  replace q0 := cellX q0
  replace q1 := cellX q1
  have hi' : (i : Int) < 6 := by omega
  refine wp_region_ext (by kernel_rfl) (by kernel_rfl) ?_
  by_cases hd : j = g i
  · have hd' : ((j : Int) == (g i : Int)) = true := by rw [beq_iff_eq]; omega
    repeat (go_big_quiet_step (first | (go_at_call 74; with_reducible exact callE (hm _))))
    refine wpQuiet_nil ?_
    rintro ⟨w1, hw1⟩
    dsimp only
    go_wp2
    go_ret
    exact Ret.mk (ret_dec (by simp only [decide_eq_true_eq, Bool.false_eq_true, false_iff, nxt]; omega)) (nextB B.out hw1)
  · have hd' : ((j : Int) == (g i : Int)) = false := by rw [beq_eq_false_iff_ne]; omega
    repeat (go_big_quiet_step (fail))
    refine wpQuiet_nil ?_
    rintro ⟨w1, hw1⟩
    dsimp only
    go_wp2
    go_ret
    exact Ret.mk (ret_dec (by simp only [decide_eq_true_eq, Bool.false_eq_true, false_iff, nxt]; omega)) (nextB B.out hw1)
/-- The plot i, j is an end; j may be -1. -/
def EndP (a : Nat) (g : Nat → Nat) (i : Nat) (j : Int) : Prop := j + 1 = (g i : Int) ∧ ((lea a g i : Nat) : Int) ≤ j
instance (a : Nat) (g : Nat → Nat) (i : Nat) (j : Int) : Decidable (EndP a g i j) := by unfold EndP; infer_instance
theorem endP_iff (a : Nat) (g : Nat → Nat) (i j : Nat) : decide (EndP a g i (j : Int)) = decide (enf a g i j) := by
  rw [decide_eq_decide]; unfold EndP enf; omega
theorem isEnd_any (a b : Nat) (g : Nat → Nat) (i : Nat) (j : Int) (w : World) (hp : IsP a b g) (hi : i < a) (hj : -1 ≤ j) : Calls Try.prog 64 #[pV a b g, .agg (qC (i : Int) j)] w (Ret (.bool (decide (EndP a g i j))) w) := by
  have hm := fun w => least_any a b g i w hp hi
  have hi6 : i < 6 := by have := hp.a6; omega
  have hb := hp.gb i
  have hb6 := hp.b6
  have k0 := (Blk.new w 66 (pC a b g)).alloc (.cells (qC (i : Int) j) 31)
  have k1 := Blk.new (w.alloc (.cells (pC a b g) 66)) 31 (qC (i : Int) j)
  rw [World.size_alloc] at k1
  have B := Lib.hid (b2 w (.cells (pC a b g) 66) (.cells (qC (i : Int) j) 31))
  replace k0 := Lib.hid k0
  replace k1 := Lib.hid k1
  go_enter Try.func64, Try.ntmps64
  go_wp2
  generalize (w.alloc (.cells (pC a b g) 66)).alloc (.cells (qC (i : Int) j) 31) = W at *
  obtain ⟨p0, p1, p2, p3, p4, p5, p6, p7⟩ := k0.out.pc
  have pg := k0.out.pg hi6
  obtain ⟨q0, q1⟩ := k1.out.qc
  replace p0 := cellX p0
  replace p1 := cellX p1
  replace p2 := cellX p2
  replace p3 := cellX p3
  replace p4 := cellX p4
  replace p5 := cellX p5
  replace p6 := cellX p6
  replace p7 := cellX p7
  replace pg := cellX pg
  replace q0 := cellX q0
  replace q1 := cellX q1
  have hi' : (i : Int) < 6 := by omega
  refine wp_region_ext (by kernel_rfl) (by kernel_rfl) ?_
  by_cases hd : j + 1 = (g i : Int)
  · have hd' : (j == (g i : Int) - 1) = true := by rw [beq_iff_eq]; omega
    repeat (go_big_quiet_step (first | (go_at_call 76; with_reducible exact callE (hm _))))
    refine wpQuiet_nil ?_
    rintro ⟨w1, hw1⟩
    dsimp only
    go_wp2
    go_ret
    exact Ret.mk (ret_dec (by simp only [decide_eq_true_eq, Bool.false_eq_true, false_iff, EndP]; omega)) (nextB B.out hw1)
  · have hd' : (j == (g i : Int) - 1) = false := by rw [beq_eq_false_iff_ne]; omega
    repeat (go_big_quiet_step (fail))
    refine wpQuiet_nil ?_
    rintro ⟨w1, hw1⟩
    dsimp only
    go_wp2
    go_ret
    exact Ret.mk (ret_dec (by simp only [decide_eq_true_eq, Bool.false_eq_true, false_iff, EndP]; omega)) (nextB B.out hw1)
end Go.Proofs.Ytniknldeafmgaaa
