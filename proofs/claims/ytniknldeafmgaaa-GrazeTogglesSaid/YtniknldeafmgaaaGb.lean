/- Layer 8, by the program: has, turned, list. -/
import Derived.Test.YtniknldeafmgaaaGa
namespace Go.Proofs.Ytniknldeafmgaaa
set_option linter.unusedSimpArgs false
set_option linter.unusedVariables false
open Go Go.RowKit

/-- There is a plot x, y. -/
def HasP (a b : Nat) (x y : Int) : Prop := 0 ≤ x ∧ x < (a : Int) ∧ 0 ≤ y ∧ y < (b : Int)
instance (a b : Nat) (x y : Int) : Decidable (HasP a b x y) := by unfold HasP; infer_instance
theorem has_any (a b : Nat) (g : Nat → Nat) (x y : Int) (w : World) : Calls Try.prog 58 #[pV a b g, .agg (qC x y)] w (Ret (.bool (decide (HasP a b x y))) w) := by
  go_enter Try.func58, Try.ntmps58
  go_wp2
  all_goals go_ret
  all_goals exact Ret.mk (ret_dec (by simp only [decide_eq_true_eq, Bool.false_eq_true, false_iff, HasP]; omega)) (b2 _ _ _)
theorem grown_set (W : World) (b i : Nat) (v : Value) : W.grownBy (W.setCell ⟨b, i, none⟩ v) (some b) :=
  ⟨rfl, rfl, rfl, (KeepsWalks.setCell W _ v).size, fun k _ hk => Below.heap_setCell _ _ _ k (fun e => hk (by rw [e]))⟩
/-- The eight cells of a block, set. -/
abbrev put8 (W : World) (B : Nat) (a b : Nat) (g : Nat → Nat) : World := (((((((W.setCell ⟨B, 0, none⟩ (.int .i64 (a : Int))).setCell ⟨B, 1, none⟩ (.int .i64 (b : Int))).setCell ⟨B, 2, none⟩ (.int .i64 (g 0 : Int))).setCell ⟨B, 3, none⟩ (.int .i64 (g 1 : Int))).setCell ⟨B, 4, none⟩ (.int .i64 (g 2 : Int))).setCell ⟨B, 5, none⟩ (.int .i64 (g 3 : Int))).setCell ⟨B, 6, none⟩ (.int .i64 (g 4 : Int))).setCell ⟨B, 7, none⟩ (.int .i64 (g 5 : Int))
theorem grown_put8 (W : World) (B : Nat) (a b : Nat) (g : Nat → Nat) : W.grownBy (put8 W B a b g) (some B) :=
  (((((((grown_set W B 0 _).trans (grown_set _ B 1 _)).trans (grown_set _ B 2 _)).trans (grown_set _ B 3 _)).trans (grown_set _ B 4 _)).trans (grown_set _ B 5 _)).trans (grown_set _ B 6 _)).trans (grown_set _ B 7 _)
/-- The cells of no pasture. -/
abbrev zC : Array Value := #[.int .i64 0, .int .i64 0, .int .i64 0, .int .i64 0, .int .i64 0, .int .i64 0, .int .i64 0, .int .i64 0]
theorem blk_set8 {W : World} {B : Nat} {t : TypeId} {c0 c1 c2 c3 c4 c5 c6 c7 : Value} (k : Blk W B t #[c0, c1, c2, c3, c4, c5, c6, c7]) (a b : Nat) (g : Nat → Nat) : Blk (put8 W B a b g) B t (pC a b g) := by
  have k8 := (((((((k.setA (i := 0) (.int .i64 (a : Int))).setA (i := 1) (.int .i64 (b : Int))).setA (i := 2) (.int .i64 (g 0 : Int))).setA (i := 3) (.int .i64 (g 1 : Int))).setA (i := 4) (.int .i64 (g 2 : Int))).setA (i := 5) (.int .i64 (g 3 : Int))).setA (i := 6) (.int .i64 (g 4 : Int))).setA (i := 7) (.int .i64 (g 5 : Int))
  simp only [List.setIfInBounds_toArray, List.set_cons_zero, List.set_cons_succ] at k8
  exact k8
theorem results_p {fn : Func} {t : Tmp} {X : World} {tmps : Array Value} {B a b : Nat} {g : Nat → Nat} (hr : fn.results = #[.cell t 66]) (k : Blk X B 66 (pC a b g)) (ht : tmps.getD t undef = .pointer (some ⟨B, 0, none⟩)) :
    (results fn tmps).run Try.prog X = .ok (pV a b g) X := by
  obtain ⟨c0, c1, c2, c3, c4, c5, c6, c7⟩ := k.pc
  rw [Array.getD_eq_getD_getElem?] at ht
  simp [results, hr, go_sem, ht, c0, c1, c2, c3, c4, c5, c6, c7]
theorem set_p {a b : Nat} {g : Nat → Nat} {i v : Nat} (hi : i < 6) : (pC a b g).setIfInBounds (2 + i) (.int .i64 (v : Int)) = pC a b (upf g i v) := by
  rcases (show i = 0 ∨ i = 1 ∨ i = 2 ∨ i = 3 ∨ i = 4 ∨ i = 5 by omega) with rfl | rfl | rfl | rfl | rfl | rfl <;> simp [upf]
theorem Blk.setP {W : World} {B : Nat} {t : TypeId} {a b : Nat} {g : Nat → Nat} (h : Blk W B t (pC a b g)) {i : Nat} (hi : i < 6) (v : Nat) : Blk (W.setCell ⟨B, 2 + i, none⟩ (.int .i64 (v : Int))) B t (pC a b (upf g i v)) := by
  have := h.setA (i := 2 + i) (.int .i64 (v : Int))
  rwa [set_p hi] at this
theorem b3z (w : World) (a b : Nat) (g : Nat → Nat) (x y : Int) (W : World) (hW : W = ((w.alloc (.cells (pC a b g) 66)).alloc (.cells (qC x y) 31)).alloc (.cells zC 66)) :
    Below w.heap.size w W ∧ Blk W w.heap.size 66 (pC a b g) ∧ Blk W (w.heap.size + 1) 31 (qC x y) ∧ Blk W (w.heap.size + 1 + 1) 66 zC := by
  subst hW
  refine ⟨b3 _ _ _ _, ((Blk.new _ _ _).alloc _).alloc _, ?_, ?_⟩
  · have := (Blk.new (w.alloc (.cells (pC a b g) 66)) 31 (qC x y)).alloc (.cells zC 66)
    rwa [World.size_alloc] at this
  · have := Blk.new ((w.alloc (.cells (pC a b g) 66)).alloc (.cells (qC x y) 31)) 66 zC
    rwa [World.size_alloc, World.size_alloc] at this
/-- The end of a walk that puts a pasture into its result's block. -/
theorem end_put {w X : World} {D a b : Nat} {g : Nat → Nat} (hD : w.heap.size ≤ D) (hX : Below w.heap.size w X) (k : Blk X D 66 zC) : Blk (put8 X D a b g) D 66 (pC a b g) ∧ Below w.heap.size w (put8 X D a b g) :=
  ⟨blk_set8 k a b g, hX.trans (below_grown (grown_put8 X D a b g) hX.size hD)⟩
theorem Blk.zc {W : World} {B : Nat} {t : TypeId} (h : Blk W B t zC) :
    W.cell? ⟨B, 0, none⟩ = some (.int .i64 0) ∧ W.cell? ⟨B, 1, none⟩ = some (.int .i64 0) ∧ W.cell? ⟨B, 2, none⟩ = some (.int .i64 0) ∧ W.cell? ⟨B, 3, none⟩ = some (.int .i64 0) ∧
    W.cell? ⟨B, 4, none⟩ = some (.int .i64 0) ∧ W.cell? ⟨B, 5, none⟩ = some (.int .i64 0) ∧ W.cell? ⟨B, 6, none⟩ = some (.int .i64 0) ∧ W.cell? ⟨B, 7, none⟩ = some (.int .i64 0) :=
  ⟨h.c 0 rfl, h.c 1 rfl, h.c 2 rfl, h.c 3 rfl, h.c 4 rfl, h.c 5 rfl, h.c 6 rfl, h.c 7 rfl⟩
set_option maxRecDepth 100000 in
theorem turned_next (a b : Nat) (g : Nat → Nat) (i j : Nat) (w : World) (hp : IsP a b g) (hi : i < a) (hn : nxt b g i j) : Calls Try.prog 59 #[pV a b g, .agg (qC (i : Int) (j : Int))] w (Ret (pV a b (upf g i (g i + 1))) w) := by
  have hi6 : i < 6 := by have := hp.a6; omega
  have hb := hp.gb i
  have hb6 := hp.b6
  have hN : ∀ w, Calls Try.prog 65 #[pV a b g, .agg (qC (i : Int) (j : Int))] w (Ret (.bool true) w) := fun w => by have := isNext_any a b g i j w hp hi6; rwa [decide_eq_true hn] at this
  clear hn hp
  obtain ⟨B, k0, k1, k2⟩ := b3z w a b g (i : Int) (j : Int) _ rfl
  replace B := Lib.hid B
  replace k0 := Lib.hid k0
  replace k1 := Lib.hid k1
  replace k2 := Lib.hid k2
  go_enter Try.func59, Try.ntmps59
  go_upto_region 1 with (fail)
  generalize (((w.alloc (.cells (pC a b g) 66)).alloc (.cells (qC (i : Int) (j : Int)) 31)).alloc (.cells zC 66)) = W at *
  obtain ⟨p0, p1, p2, p3, p4, p5, p6, p7⟩ := k0.out.pc
  obtain ⟨q0, q1⟩ := k1.out.qc
  go_upto_region 2 with (go_at_call 65; refine (hN _).mono ?_; rintro _ w1 ⟨rfl, hw1⟩)
  clear p0 p1 p2 p3 p4 p5 p6 p7 q0 q1 hN
  replace B := Lib.hid (nextB B.out hw1)
  replace k0 := Lib.hid (k0.out.ext hw1)
  replace k1 := Lib.hid (k1.out.ext hw1)
  replace k2 := Lib.hid (k2.out.ext hw1)
  clear hw1
  clear W
  obtain ⟨p0, p1, p2, p3, p4, p5, p6, p7⟩ := k0.out.pc
  obtain ⟨q0, q1⟩ := k1.out.qc
  have l0 := k0.out
  have l2 := k2.out
  obtain ⟨r0, r1, r2, r3, r4, r5, r6, r7⟩ := l2.zc
  have f0 := l0.fr
  have f2 := l2.fr
  have X2 := Lib.hid (end_put (a := a) (b := b) (g := upf g i (g i + 1)) (w := w) (D := w.heap.size + 1 + 1) (by omega) (B.out.setCell (p := ⟨w.heap.size, 2 + i, none⟩) (by simp) (.int .i64 ((g i + 1 : Nat) : Int))) (l2.other (B' := w.heap.size) (i := 2 + i) (by omega) (.int .i64 ((g i + 1 : Nat) : Int))))
  clear l0 l2 k0 k1 k2
  rcases (show i = 0 ∨ i = 1 ∨ i = 2 ∨ i = 3 ∨ i = 4 ∨ i = 5 by omega) with rfl | rfl | rfl | rfl | rfl | rfl
  all_goals
    go_wp2
    exact bodyPost_ret (results_p rfl X2.out.1 rfl) rfl (Ret.mk rfl X2.out.2)
set_option maxRecDepth 100000 in
theorem turned_end (a b : Nat) (g : Nat → Nat) (i j : Nat) (w : World) (hp : IsP a b g) (hi : i < a) (hn : ¬ nxt b g i j) (he : enf a g i j) : Calls Try.prog 59 #[pV a b g, .agg (qC (i : Int) (j : Int))] w (Ret (pV a b (upf g i j)) w) := by
  have hi6 : i < 6 := by have := hp.a6; omega
  have hb := hp.gb i
  have hb6 := hp.b6
  have hN : ∀ w, Calls Try.prog 65 #[pV a b g, .agg (qC (i : Int) (j : Int))] w (Ret (.bool false) w) := fun w => by have := isNext_any a b g i j w hp hi6; rwa [decide_eq_false hn] at this
  have hE : ∀ w, Calls Try.prog 64 #[pV a b g, .agg (qC (i : Int) (j : Int))] w (Ret (.bool true) w) := fun w => by have := isEnd_any a b g i (j : Int) w hp hi (by omega); rwa [endP_iff, decide_eq_true he] at this
  have hj : (g i : Int) - 1 = (j : Int) := by unfold enf at he; omega
  clear hn he hp
  obtain ⟨B, k0, k1, k2⟩ := b3z w a b g (i : Int) (j : Int) _ rfl
  replace B := Lib.hid B
  replace k0 := Lib.hid k0
  replace k1 := Lib.hid k1
  replace k2 := Lib.hid k2
  go_enter Try.func59, Try.ntmps59
  go_upto_region 1 with (fail)
  generalize (((w.alloc (.cells (pC a b g) 66)).alloc (.cells (qC (i : Int) (j : Int)) 31)).alloc (.cells zC 66)) = W at *
  obtain ⟨p0, p1, p2, p3, p4, p5, p6, p7⟩ := k0.out.pc
  obtain ⟨q0, q1⟩ := k1.out.qc
  go_upto_region 3 with (go_at_call 65; refine (hN _).mono ?_; rintro _ w1 ⟨rfl, hw1⟩)
  clear p0 p1 p2 p3 p4 p5 p6 p7 q0 q1 hN
  replace B := Lib.hid (nextB B.out hw1)
  replace k0 := Lib.hid (k0.out.ext hw1)
  replace k1 := Lib.hid (k1.out.ext hw1)
  replace k2 := Lib.hid (k2.out.ext hw1)
  clear hw1
  clear W
  obtain ⟨p0, p1, p2, p3, p4, p5, p6, p7⟩ := k0.out.pc
  obtain ⟨q0, q1⟩ := k1.out.qc
  go_upto_region 4 with (go_at_call 64; refine (hE _).mono ?_; rintro _ w2 ⟨rfl, hw2⟩)
  clear p0 p1 p2 p3 p4 p5 p6 p7 q0 q1 hE
  replace B := Lib.hid (nextB B.out hw2)
  replace k0 := Lib.hid (k0.out.ext hw2)
  replace k1 := Lib.hid (k1.out.ext hw2)
  replace k2 := Lib.hid (k2.out.ext hw2)
  clear hw2
  clear w1
  obtain ⟨p0, p1, p2, p3, p4, p5, p6, p7⟩ := k0.out.pc
  obtain ⟨q0, q1⟩ := k1.out.qc
  have l0 := k0.out
  have l2 := k2.out
  obtain ⟨r0, r1, r2, r3, r4, r5, r6, r7⟩ := l2.zc
  have f0 := l0.fr
  have f2 := l2.fr
  have X2 := Lib.hid (end_put (a := a) (b := b) (g := upf g i (j)) (w := w) (D := w.heap.size + 1 + 1) (by omega) (B.out.setCell (p := ⟨w.heap.size, 2 + i, none⟩) (by simp) (.int .i64 ((j : Nat) : Int))) (l2.other (B' := w.heap.size) (i := 2 + i) (by omega) (.int .i64 ((j : Nat) : Int))))
  clear l0 l2 k0 k1 k2
  rcases (show i = 0 ∨ i = 1 ∨ i = 2 ∨ i = 3 ∨ i = 4 ∨ i = 5 by omega) with rfl | rfl | rfl | rfl | rfl | rfl
  all_goals
    go_wp2
    exact bodyPost_ret (results_p rfl X2.out.1 rfl) rfl (Ret.mk rfl X2.out.2)
set_option maxRecDepth 100000 in
theorem turned_not (a b : Nat) (g : Nat → Nat) (i j : Nat) (w : World) (hp : IsP a b g) (hi : i < a) (hn : ¬ nxt b g i j) (he : ¬ enf a g i j) : Calls Try.prog 59 #[pV a b g, .agg (qC (i : Int) (j : Int))] w (Ret (pV a b g) w) := by
  have hi6 : i < 6 := by have := hp.a6; omega
  have hb := hp.gb i
  have hb6 := hp.b6
  have hN : ∀ w, Calls Try.prog 65 #[pV a b g, .agg (qC (i : Int) (j : Int))] w (Ret (.bool false) w) := fun w => by have := isNext_any a b g i j w hp hi6; rwa [decide_eq_false hn] at this
  have hE : ∀ w, Calls Try.prog 64 #[pV a b g, .agg (qC (i : Int) (j : Int))] w (Ret (.bool false) w) := fun w => by have := isEnd_any a b g i (j : Int) w hp hi (by omega); rwa [endP_iff, decide_eq_false he] at this
  clear hn he hp
  obtain ⟨B, k0, k1, k2⟩ := b3z w a b g (i : Int) (j : Int) _ rfl
  replace B := Lib.hid B
  replace k0 := Lib.hid k0
  replace k1 := Lib.hid k1
  replace k2 := Lib.hid k2
  go_enter Try.func59, Try.ntmps59
  go_upto_region 1 with (fail)
  generalize (((w.alloc (.cells (pC a b g) 66)).alloc (.cells (qC (i : Int) (j : Int)) 31)).alloc (.cells zC 66)) = W at *
  obtain ⟨p0, p1, p2, p3, p4, p5, p6, p7⟩ := k0.out.pc
  obtain ⟨q0, q1⟩ := k1.out.qc
  go_upto_region 3 with (go_at_call 65; refine (hN _).mono ?_; rintro _ w1 ⟨rfl, hw1⟩)
  clear p0 p1 p2 p3 p4 p5 p6 p7 q0 q1 hN
  replace B := Lib.hid (nextB B.out hw1)
  replace k0 := Lib.hid (k0.out.ext hw1)
  replace k1 := Lib.hid (k1.out.ext hw1)
  replace k2 := Lib.hid (k2.out.ext hw1)
  clear hw1
  clear W
  obtain ⟨p0, p1, p2, p3, p4, p5, p6, p7⟩ := k0.out.pc
  obtain ⟨q0, q1⟩ := k1.out.qc
  go_upto_region 5 with (go_at_call 64; refine (hE _).mono ?_; rintro _ w2 ⟨rfl, hw2⟩)
  clear p0 p1 p2 p3 p4 p5 p6 p7 q0 q1 hE
  replace B := Lib.hid (nextB B.out hw2)
  replace k0 := Lib.hid (k0.out.ext hw2)
  replace k1 := Lib.hid (k1.out.ext hw2)
  replace k2 := Lib.hid (k2.out.ext hw2)
  clear hw2
  clear w1
  obtain ⟨p0, p1, p2, p3, p4, p5, p6, p7⟩ := k0.out.pc
  obtain ⟨q0, q1⟩ := k1.out.qc
  have l2 := k2.out
  obtain ⟨r0, r1, r2, r3, r4, r5, r6, r7⟩ := l2.zc
  have f2 := l2.fr
  have X2 := Lib.hid (end_put (a := a) (b := b) (g := g) (w := w) (D := w.heap.size + 1 + 1) (by omega) B.out l2)
  clear l2 k0 k1 k2
  go_wp2
  exact bodyPost_ret (results_p rfl X2.out.1 rfl) rfl (Ret.mk rfl X2.out.2)
theorem turned_any (a b : Nat) (g : Nat → Nat) (i j : Nat) (w : World) (hp : IsP a b g) (hi : i < a) : Calls Try.prog 59 #[pV a b g, .agg (qC (i : Int) (j : Int))] w (Ret (pV a b (tnf a b g i j)) w) := by
  by_cases hn : nxt b g i j
  · have ht : tnf a b g i j = upf g i (g i + 1) := if_pos hn
    rw [ht]; exact turned_next a b g i j w hp hi hn
  · by_cases he : enf a g i j
    · have ht : tnf a b g i j = upf g i j := by
        unfold tnf
        rw [if_neg hn, if_pos he]
        unfold enf at he
        congr 1; omega
      rw [ht]; exact turned_end a b g i j w hp hi hn he
    · have ht : tnf a b g i j = g := by unfold tnf; rw [if_neg hn, if_neg he]
      rw [ht]; exact turned_not a b g i j w hp hi hn he
end Go.Proofs.Ytniknldeafmgaaa
