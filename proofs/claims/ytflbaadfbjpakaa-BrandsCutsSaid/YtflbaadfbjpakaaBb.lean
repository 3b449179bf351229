/- Layer 2: pairs: their order, their crossings; lists of pairs. -/
import Derived.Test.YtflbaadfbjpakaaBa
import Derived.Deep.QuietTactic
import Derived.BigQuiet
import Derived.Test.YtflbaadfbjpakaaT
namespace Go.Proofs.Ytflbaadfbjpakaa
open Go Go.RowKit

/-- The i-th number. -/
def nth (xs : List Int) (i : Nat) : Int := xs.getD i 0
/-- The i-th pair. -/
def pth (L : List (Int × Int)) (i : Nat) : Int × Int := L.getD i (0, 0)
theorem nth_mem {xs : List Int} {i : Nat} (h : i < xs.length) : nth xs i ∈ xs := by
  unfold nth; rw [List.getD_eq_getElem?_getD, List.getElem?_eq_getElem h]; exact List.getElem_mem h
theorem pth_mem {L : List (Int × Int)} {i : Nat} (h : i < L.length) : pth L i ∈ L := by
  unfold pth; rw [List.getD_eq_getElem?_getD, List.getElem?_eq_getElem h]; exact List.getElem_mem h
theorem mem_nth {xs : List Int} {x : Int} (h : x ∈ xs) : ∃ i, i < xs.length ∧ nth xs i = x := by
  obtain ⟨i, hi, rfl⟩ := List.mem_iff_getElem.1 h
  exact ⟨i, hi, by simp [nth, hi]⟩
theorem mem_pth {L : List (Int × Int)} {x : Int × Int} (h : x ∈ L) : ∃ i, i < L.length ∧ pth L i = x := by
  obtain ⟨i, hi, rfl⟩ := List.mem_iff_getElem.1 h
  exact ⟨i, hi, by simp [pth, hi]⟩
/-- The slice at a holds the numbers xs. -/
def Ints (w : World) (a : Option Addr) (xs : List Int) : Prop :=
  xs.length = 0 ∨ ∃ b off, a = some ⟨b, off, none⟩ ∧ ∀ i, i < xs.length → w.cell? ⟨b, off + i, none⟩ = some (.int .i64 (nth xs i))
/-- The slice at a holds the pairs L. -/
def Prs (w : World) (a : Option Addr) (L : List (Int × Int)) : Prop :=
  L.length = 0 ∨ ∃ b off, a = some ⟨b, off, none⟩ ∧ ∀ i, i < L.length → w.cell? ⟨b, off + i * 2, none⟩ = some (.int .i64 (pth L i).1) ∧ w.cell? ⟨b, off + i * 2 + 1, none⟩ = some (.int .i64 (pth L i).2)
theorem Ints.next {w w' : World} {a : Option Addr} {xs : List Int} (h : Ints w a xs) (hb : Below w.heap.size w w') : Ints w' a xs := by
  rcases h with h | ⟨b, off, e, hc⟩
  · exact .inl h
  · exact .inr ⟨b, off, e, fun i hi => cellB hb (hc i hi)⟩
theorem Prs.next {w w' : World} {a : Option Addr} {L : List (Int × Int)} (h : Prs w a L) (hb : Below w.heap.size w w') : Prs w' a L := by
  rcases h with h | ⟨b, off, e, hc⟩
  · exact .inl h
  · exact .inr ⟨b, off, e, fun i hi => ⟨cellB hb (hc i hi).1, cellB hb (hc i hi).2⟩⟩

theorem eqPr (a b c d : Int) (w : World) : (Op.equalIn 10000 60 (.agg #[.int .i64 a, .int .i64 b]) (.agg #[.int .i64 c, .int .i64 d])).run Try.prog w = .ok (a == c && b == d) w := by
  have u3 := Try.underlying3
  have a3 := Try.isAgg3
  have z3 := Try.sizeOf3
  have hS : Try.prog.underlying 60 = some (.struct (Try.prog.fieldsOf 60)) := by kernel_rfl
  rw [show (10000 : Nat) = 9999 + 1 from rfl, run_equalIn_agg w 9999 60 _ _ hS (by kernel_rfl)]
  simp only [Program.fieldsOf, Try.underlying60]
  go_simp
  by_cases h1 : a = c <;> by_cases h2 : b = d <;> simp [h1, h2]
@[go_sem high] theorem run_eqlPr (a b c d : Int) (w : World) : (binOp .eql 60 (.agg #[.int .i64 a, .int .i64 b]) (.agg #[.int .i64 c, .int .i64 d])).run Try.prog w = .ok (.bool (eqP (a, b) (c, d))) w := by
  rw [run_eql_struct, eqPr]; rfl
@[go_sem high] theorem run_neqPr (a b c d : Int) (w : World) : (binOp .neq 60 (.agg #[.int .i64 a, .int .i64 b]) (.agg #[.int .i64 c, .int .i64 d])).run Try.prog w = .ok (.bool (!eqP (a, b) (c, d))) w := by
  rw [run_neq_struct, eqPr]; rfl

theorem lineOf_any (a b : Int) (w : World) :
    Calls Try.prog 76 #[.int .i64 a, .int .i64 b] w (Ret (.agg #[.int .i64 (min a b), .int .i64 (max a b)]) w) := by
  rcases Int.lt_trichotomy a b with h | rfl | h
  · rw [Int.min_eq_left (by omega), Int.max_eq_right (by omega)]
    go_enter Try.func76, Try.ntmps76
    go_wp2
    exact bodyPost_ret (v := .agg #[.int .i64 a, .int .i64 b]) (by simp [results, Try.results76, go_sem]) rfl (Ret.mk rfl (b1 _ _))
  · rw [Int.min_eq_left (by omega), Int.max_eq_right (by omega)]
    go_enter Try.func76, Try.ntmps76
    go_wp2
    exact bodyPost_ret (v := .agg #[.int .i64 a, .int .i64 a]) (by simp [results, Try.results76, go_sem]) rfl (Ret.mk rfl (b1 _ _))
  · rw [Int.min_eq_right (by omega), Int.max_eq_left (by omega)]
    go_enter Try.func76, Try.ntmps76
    go_wp2
    exact bodyPost_ret (v := .agg #[.int .i64 b, .int .i64 a]) (by simp [results, Try.results76, go_sem]) rfl (Ret.mk rfl (b1 _ _))
theorem cross_any (a b c d : Int) (w : World) :
    Calls Try.prog 73 #[.agg #[.int .i64 a, .int .i64 b], .agg #[.int .i64 c, .int .i64 d]] w (Ret (.bool (decide (CutP (a, b) (c, d)))) w) := by
  go_enter Try.func73, Try.ntmps73
  go_wp2
  all_goals go_ret
  all_goals exact Ret.mk (ret_dec (by simp only [decide_eq_true_eq, Bool.false_eq_true, false_iff, CutP]; omega)) (b2 _ _ _)
theorem refCrosses_any (a b c d : Int) (w : World) :
    Calls Try.prog 51 #[.agg #[.int .i64 a, .int .i64 b], .agg #[.int .i64 c, .int .i64 d]] w (Ret (.bool (decide (CrossP (a, b) (c, d)))) w) := by
  go_enter Try.func51, Try.ntmps51
  go_wp2
  all_goals go_ret
  all_goals exact Ret.mk (ret_dec (by simp only [decide_eq_true_eq, Bool.false_eq_true, false_iff, true_iff, CrossP, CutP]; omega)) (b2 _ _ _)
theorem refBefore_any (a b c d : Int) (w : World) :
    Calls Try.prog 50 #[.agg #[.int .i64 a, .int .i64 b], .agg #[.int .i64 c, .int .i64 d]] w (Ret (.bool (decide (LexP (a, b) (c, d)))) w) := by
  cases g1 : (a == c)
  all_goals
    have G1 := Lib.hid g1
    go_enter Try.func50, Try.ntmps50
    go_wp2
    all_goals go_ret
    all_goals
      replace G1 := G1.out
      simp only [beq_iff_eq, beq_eq_false_iff_ne, ne_eq] at G1
      exact Ret.mk (ret_dec (by simp only [decide_eq_true_eq, Bool.or_eq_true, true_iff, LexP]; omega)) (b2 _ _ _)
/-- The first one that is not 0. -/
def orI (x y : Int) : Int := if x = 0 then y else x
theorem isNaN_any (a : Int) (w : World) : Calls Try.prog 94 #[.int .i64 a] w (Only (.bool false) w) := by
  go_enter Try.func94, Try.ntmps94
  go_wp2
  go_ret
  exact Only.mk (by simp)
theorem Compare_any (a b : Int) (w : World) : Calls Try.prog 86 #[.int .i64 a, .int .i64 b] w (Only (.int .i64 (cmpI a b)) w) := by
  go_enter Try.func86, Try.ntmps86
  go_wp2_with (go_at_call 94; refine (isNaN_any _ _).mono ?_; rintro e w1 ⟨rfl, rfl⟩)
  all_goals go_ret
  all_goals exact Only.mk (by unfold cmpI; (repeat' split) <;> first | rfl | (exfalso; omega))
theorem Or_any (b : Nat) (x y : Int) (w : World) (h0 : w.cell? ⟨b, 0, none⟩ = some (.int .i64 x)) (h1 : w.cell? ⟨b, 1, none⟩ = some (.int .i64 y)) :
    Calls Try.prog 85 #[.slice (some ⟨b, 0, none⟩) 2 2] w (Only (.int .i64 (orI x y)) w) := by
  cases g1 : (x != 0)
  · have hx : x = 0 := by simpa using g1
    cases g2 : (y != 0)
    · have hy : y = 0 := by simpa using g2
      replace hx := Lib.hid hx
      replace hy := Lib.hid hy
      go_enter Try.func85, Try.ntmps85
      go_wp2
      go_loop [5, 8] (fun v i => ∃ k : Nat, k ≤ 2 ∧ i = .int .i64 k) (fun _ i => 2 - (intOf i).toNat)
      case atStart => exact ⟨0, by omega, rfl⟩
      case round =>
        obtain ⟨k, hk, rfl⟩ := hrel
        obtain rfl | rfl | rfl : k = 0 ∨ k = 1 ∨ k = 2 := by omega
        · go_wp2
          go_round
          case rel => exact ⟨1, by omega, rfl⟩
          case measure => simp [intOf]
        · go_wp2
          go_round
          case rel => exact ⟨2, by omega, rfl⟩
          case measure => simp [intOf]
        · go_wp2
          go_ret
          exact Only.mk (by rw [orI, if_pos hx.out, hy.out]; rfl)
    · replace hx := Lib.hid hx
      go_enter Try.func85, Try.ntmps85
      go_wp2
      go_loop [5, 8] (fun v i => ∃ k : Nat, k ≤ 1 ∧ i = .int .i64 k) (fun _ i => 1 - (intOf i).toNat)
      case atStart => exact ⟨0, by omega, rfl⟩
      case round =>
        obtain ⟨k, hk, rfl⟩ := hrel
        obtain rfl | rfl : k = 0 ∨ k = 1 := by omega
        · go_wp2
          go_round
          case rel => exact ⟨1, by omega, rfl⟩
          case measure => simp [intOf]
        · go_wp2
          go_ret
          exact Only.mk (by rw [orI, if_pos hx.out]; rfl)
  · have hx := Lib.hid (show ¬ x = 0 by simpa using g1)
    go_enter Try.func85, Try.ntmps85
    go_wp2
    go_loop [5, 8] (fun v i => ∃ k : Nat, k ≤ 0 ∧ i = .int .i64 k) (fun _ i => 0 - (intOf i).toNat)
    case atStart => exact ⟨0, by omega, rfl⟩
    case round =>
      obtain ⟨k, hk, rfl⟩ := hrel
      obtain rfl : k = 0 := by omega
      go_wp2
      go_ret
      exact Only.mk (by rw [orI, if_neg hx.out]; rfl)

/-- The order of lines, by numbers. -/
def cmpL (p q : Int × Int) : Int := orI (cmpI p.1 q.1) (cmpI p.2 q.2)
theorem cmpL_neg {p q : Int × Int} : cmpL p q < 0 ↔ LexP p q := by
  unfold cmpL orI cmpI LexP
  (repeat' split) <;> omega
theorem cmpL_bd (p q : Int × Int) : -1 ≤ cmpL p q ∧ cmpL p q ≤ 1 := by
  unfold cmpL orI cmpI
  (repeat' split) <;> omega
set_option maxRecDepth 100000 in
theorem compare_any (a b c d : Int) (w : World) :
    Calls Try.prog 70 #[.agg #[.int .i64 a, .int .i64 b], .agg #[.int .i64 c, .int .i64 d]] w (Ret (.int .i64 (cmpL (a, b) (c, d))) w) := by
  go_enter Try.func70, Try.ntmps70
  go_wp2
  refine wp_region_ext_tail 10 (by kernel_rfl) (by kernel_rfl) ?_
  simp only [List.take_succ_cons, List.take_zero, List.drop_succ_cons, List.drop_zero]
  have x20 : (((w.alloc (.cells #[.int .i64 a, .int .i64 b] 60)).alloc (.cells #[.int .i64 c, .int .i64 d] 60))).cell? ⟨w.heap.size, 0, none⟩ = some (.int .i64 a) := by go_simp
  have x21 : (((w.alloc (.cells #[.int .i64 a, .int .i64 b] 60)).alloc (.cells #[.int .i64 c, .int .i64 d] 60))).cell? ⟨w.heap.size, 1, none⟩ = some (.int .i64 b) := by go_simp
  have x30 : (((w.alloc (.cells #[.int .i64 a, .int .i64 b] 60)).alloc (.cells #[.int .i64 c, .int .i64 d] 60))).cell? ⟨w.heap.size + 1, 0, none⟩ = some (.int .i64 c) := by go_simp
  have x31 : (((w.alloc (.cells #[.int .i64 a, .int .i64 b] 60)).alloc (.cells #[.int .i64 c, .int .i64 d] 60))).cell? ⟨w.heap.size + 1, 1, none⟩ = some (.int .i64 d) := by go_simp
  have B := b2 w (.cells #[.int .i64 a, .int .i64 b] 60) (.cells #[.int .i64 c, .int .i64 d] 60)
  generalize ((w.alloc (.cells #[.int .i64 a, .int .i64 b] 60)).alloc (.cells #[.int .i64 c, .int .i64 d] 60)) = W at *
  replace x20 := cellX x20
  replace x21 := cellX x21
  replace x30 := cellX x30
  replace x31 := cellX x31
  repeat (go_big_quiet_step ((go_at_call 86; exact onlyE (Compare_any _ _ _))))
  refine wpQuiet_nil ?_
  rintro ⟨w1, hw1⟩
  dsimp only
  replace B := nextB B hw1
  clear x20 x21 x30 x31
  go_wp2_with (go_at_call 85; refine (Or_any _ (cmpI a c) (cmpI b d) _ (by go_simp) (by go_simp)).mono ?_; rintro e w2 ⟨rfl, rfl⟩)
  go_ret
  exact Ret.mk rfl (nextB B (b1 _ _))
end Go.Proofs.Ytflbaadfbjpakaa
