/- Layer 2, the functions without loops: what each returns. Layer 2: pairs: their order, their crossings; lists of pairs. Layer 2: is a pair in a list; are corners joined. Layer 2: joined corners, by the program and by the specification. Layer 2: which lists are brands: the program's test. -/
import Derived.Test.YtkbdclladfjmcaaProg
import Derived.Test.YtkbdclladfjmcaaKb
import Derived.WalkKit
import Derived.WalkSpells
import Derived.WalkLawsBesides
import Derived.Lib.Hide
import Derived.Deep.QuietTactic
import Derived.BigQuiet
namespace Go.Proofs.Ytkbdclladfjmcaa
section
open Go Go.RowKit

/-- A call returned v and turned nothing. -/
def Only (v : Value) (w : World) (e : Ending) (w' : World) : Prop := e = .returned v ∧ w = w'
theorem Only.mk {v v' : Value} {w : World} (h : v' = v) : Only v w (.returned v') w := ⟨by rw [h], rfl⟩
theorem Only.ret {v : Value} {w w' : World} {e : Ending} (h : Only v w e w') : Ret v w e w' := by obtain ⟨rfl, rfl⟩ := h; exact ⟨rfl, Below.refl _ _⟩

theorem onlyE {P : Program} {f : FuncId} {args : Array Value} {w : World} {x : Ext w} {v : Value} (h : Calls P f args x.world (Only v x.world)) :
    Calls P f args x.world fun e w'' => e = .returned v ∧ ∃ y : Ext w, w'' = y.world := callE (h.mono fun _ _ k => k.ret)
/-- c is a corner of a polygon of n corners. -/
def CornP (n c : Int) : Prop := 0 ≤ c ∧ c < n
instance (n c : Int) : Decidable (CornP n c) := by unfold CornP; infer_instance
/-- Two corners are neighbours. -/
def Nbr (n a b : Int) : Prop := (a + 1) % n = b ∨ (b + 1) % n = a
instance (n a b : Int) : Decidable (Nbr n a b) := by unfold Nbr; infer_instance
/-- A pair is a line of a polygon of n corners. -/
def LineP (n : Int) (q : Int × Int) : Prop := 0 ≤ q.1 ∧ q.1 + 2 ≤ q.2 ∧ q.2 < n ∧ ¬ (q.1 = 0 ∧ q.2 = n - 1)
instance (n : Int) (q : Int × Int) : Decidable (LineP n q) := by unfold LineP; infer_instance
/-- The order of lines. -/
def LexP (p q : Int × Int) : Prop := p.1 < q.1 ∨ p.1 = q.1 ∧ p.2 < q.2
instance (p q : Int × Int) : Decidable (LexP p q) := by unfold LexP; infer_instance
/-- The second line begins inside of the first one, and ends outside. -/
def CutP (p q : Int × Int) : Prop := p.1 < q.1 ∧ q.1 < p.2 ∧ p.2 < q.2
instance (p q : Int × Int) : Decidable (CutP p q) := by unfold CutP; infer_instance
def CrossP (p q : Int × Int) : Prop := CutP p q ∨ CutP q p
instance (p q : Int × Int) : Decidable (CrossP p q) := by unfold CrossP; infer_instance
def cmpI (a b : Int) : Int := if a < b then -1 else if b < a then 1 else 0
def cmpP (p q : Int × Int) : Int := if cmpI p.1 q.1 = 0 then cmpI p.2 q.2 else cmpI p.1 q.1
theorem nbr_line {n a b : Int} (h0 : 0 ≤ a) (h1 : a < n) (h2 : 0 ≤ b) (h3 : b < n) (h4 : a < b) : (¬ Nbr n a b) ↔ LineP n (a, b) := by
  have e1 : (a + 1) % n = a + 1 := Int.emod_eq_of_lt (by omega) (by omega)
  have e2 : (b + 1) % n = if b + 1 = n then 0 else b + 1 := by
    split
    · rename_i h; rw [h]; simp
    · exact Int.emod_eq_of_lt (by omega) (by omega)
  unfold Nbr LineP
  rw [e1, e2]
  split <;> simp only [] <;> omega

theorem after_any (n c : Int) (w : World) (h1 : 1 ≤ n) (h2 : 0 ≤ c) (h3 : c ≤ 1000) :
    Calls Try.prog 21 #[.int .i64 n, .int .i64 c] w (Only (.int .i64 ((c + 1) % n)) w) := by
  go_enter Try.func21, Try.ntmps21
  go_wp2
  go_ret
  exact Only.mk rfl
theorem ahead_any (n c : Int) (w : World) (h1 : 1 ≤ n) (h2 : n ≤ 1000) (h3 : 0 ≤ c) (h4 : c ≤ 1000) :
    Calls Try.prog 32 #[.int .i64 n, .int .i64 c] w (Only (.int .i64 ((c + n - 1) % n)) w) := by
  go_enter Try.func32, Try.ntmps32
  go_wp2
  go_ret
  exact Only.mk rfl
theorem isCorner_any (n c : Int) (w : World) :
    Calls Try.prog 20 #[.int .i64 n, .int .i64 c] w (Only (.bool (decide (CornP n c))) w) := by
  go_enter Try.func20, Try.ntmps20
  go_wp2
  all_goals go_ret
  all_goals exact Only.mk (ret_dec (by simp only [decide_eq_true_eq, Bool.false_eq_true, false_iff, CornP]; omega))
theorem neighbours_any (n a b : Int) (w : World) (h1 : 1 ≤ n) (h2 : 0 ≤ a) (h3 : a ≤ 1000) (h4 : 0 ≤ b) (h5 : b ≤ 1000) :
    Calls Try.prog 37 #[.int .i64 n, .int .i64 a, .int .i64 b] w (Only (.bool (decide (Nbr n a b))) w) := by
  cases g1 : ((a + 1) % n == b)
  · cases g2 : ((b + 1) % n == a)
    all_goals
      go_enter Try.func37, Try.ntmps37
      go_wp2_with (go_at_call 21; refine (after_any _ _ _ (by assumption) (by assumption) (by assumption)).mono ?_; rintro e w1 ⟨rfl, rfl⟩)
      go_ret
      exact Only.mk (ret_dec (by simp_all [Nbr]))
  · go_enter Try.func37, Try.ntmps37
    go_wp2_with (go_at_call 21; refine (after_any _ _ _ (by assumption) (by assumption) (by assumption)).mono ?_; rintro e w1 ⟨rfl, rfl⟩)
    go_ret
    exact Only.mk (ret_dec (by simp_all [Nbr]))

/-- The struct of two numbers. -/
abbrev pairV (q : Int × Int) : Value := .agg #[.int .i64 q.1, .int .i64 q.2]
theorem isLine_any (n a b : Int) (w : World) (h1 : 1 ≤ n) (h2 : n ≤ 1000) :
    Calls Try.prog 23 #[.int .i64 n, .agg #[.int .i64 a, .int .i64 b]] w (Ret (.bool (decide (LineP n (a, b)))) w) := by
  have ha := isCorner_any n a
  have hb := isCorner_any n b
  by_cases ca : CornP n a
  · by_cases cb : CornP n b
    · have nn := fun W => neighbours_any n a b W h1 ca.1 (by have := ca.2; omega) cb.1 (by have := cb.2; omega)
      simp only [decide_eq_true ca, decide_eq_true cb] at ha hb
      have cab : CornP n a ∧ CornP n b := ⟨ca, cb⟩
      unfold CornP at cab
      clear ca cb
      by_cases hlt : a < b
      · cases g : decide (Nbr n a b)
        all_goals
          simp only [g] at nn
          replace g := Lib.hid g
          go_enter Try.func23, Try.ntmps23
          go_wp2_with (first
            | (go_at_call 20; (with_reducible refine (ha _).mono ?_); rintro e w1 ⟨rfl, rfl⟩)
            | (go_at_call 20; (with_reducible refine (hb _).mono ?_); rintro e w1 ⟨rfl, rfl⟩)
            | (go_at_call 37; refine (nn _).mono ?_; rintro e w1 ⟨rfl, rfl⟩))
          go_ret
          exact Ret.mk (ret_dec (by rw [← nbr_line cab.1.1 cab.1.2 cab.2.1 cab.2.2 hlt]; have := g.out; simp_all)) (b1 _ _)
      · clear nn
        go_enter Try.func23, Try.ntmps23
        go_wp2_with (first
          | (go_at_call 20; (with_reducible refine (ha _).mono ?_); rintro e w1 ⟨rfl, rfl⟩)
          | (go_at_call 20; (with_reducible refine (hb _).mono ?_); rintro e w1 ⟨rfl, rfl⟩))
        go_ret
        exact Ret.mk (ret_dec (by simp only [Bool.false_eq_true, false_iff, LineP]; omega)) (b1 _ _)
    · simp only [decide_eq_true ca, decide_eq_false cb] at ha hb
      unfold CornP at ca cb
      go_enter Try.func23, Try.ntmps23
      go_wp2_with (first
        | (go_at_call 20; (with_reducible refine (ha _).mono ?_); rintro e w1 ⟨rfl, rfl⟩)
        | (go_at_call 20; (with_reducible refine (hb _).mono ?_); rintro e w1 ⟨rfl, rfl⟩))
      go_ret
      exact Ret.mk (ret_dec (by simp only [Bool.false_eq_true, false_iff, LineP]; omega)) (b1 _ _)
  · simp only [decide_eq_false ca] at ha
    unfold CornP at ca
    go_enter Try.func23, Try.ntmps23
    go_wp2_with (go_at_call 20; (with_reducible refine (ha _).mono ?_); rintro e w1 ⟨rfl, rfl⟩)
    go_ret
    exact Ret.mk (ret_dec (by simp only [Bool.false_eq_true, false_iff, LineP]; omega)) (b1 _ _)
end
section
open Go Go.RowKit

/-- The i-th number. -/
def nth (xs : List Int) (i : Nat) : Int := xs.getD i 0
/-- The i-th pair. -/
def pth (L : List (Int × Int)) (i : Nat) : Int × Int := L.getD i (0, 0)
theorem nth_mem {xs : List Int} {i : Nat} (h : i < xs.length) : nth xs i ∈ xs := by
  unfold nth; rw [List.getD_eq_getElem?_getD, List.getElem?_eq_getElem h]; exact List.getElem_mem h
theorem pth_mem {L : List (Int × Int)} {i : Nat} (h : i < L.length) : pth L i ∈ L := by
  unfold pth; rw [List.getD_eq_getElem?_getD, List.getElem?_eq_getElem h]; exact List.getElem_mem h
theorem mem_nth {xs : List Int} {x : Int} (h : x ∈ xs) : ∃ i, i < xs.length ∧ nth xs i = x := by
  obtain ⟨i, hi, rfl⟩ := List.mem_iff_getElem.1 h
  exact ⟨i, hi, by simp [nth, hi]⟩
theorem mem_pth {L : List (Int × Int)} {x : Int × Int} (h : x ∈ L) : ∃ i, i < L.length ∧ pth L i = x := by
  obtain ⟨i, hi, rfl⟩ := List.mem_iff_getElem.1 h
  exact ⟨i, hi, by simp [pth, hi]⟩
/-- The slice at a holds the numbers xs. -/
def Ints (w : World) (a : Option Addr) (xs : List Int) : Prop :=
  xs.length = 0 ∨ ∃ b off, a = some ⟨b, off, none⟩ ∧ ∀ i, i < xs.length → w.cell? ⟨b, off + i, none⟩ = some (.int .i64 (nth xs i))
/-- The slice at a holds the pairs L. -/
def Prs (w : World) (a : Option Addr) (L : List (Int × Int)) : Prop :=
  L.length = 0 ∨ ∃ b off, a = some ⟨b, off, none⟩ ∧ ∀ i, i < L.length → w.cell? ⟨b, off + i * 2, none⟩ = some (.int .i64 (pth L i).1) ∧ w.cell? ⟨b, off + i * 2 + 1, none⟩ = some (.int .i64 (pth L i).2)
theorem Ints.next {w w' : World} {a : Option Addr} {xs : List Int} (h : Ints w a xs) (hb : Below w.heap.size w w') : Ints w' a xs := by
  rcases h with h | ⟨b, off, e, hc⟩
  · exact .inl h
  · exact .inr ⟨b, off, e, fun i hi => cellB hb (hc i hi)⟩
theorem Prs.next {w w' : World} {a : Option Addr} {L : List (Int × Int)} (h : Prs w a L) (hb : Below w.heap.size w w') : Prs w' a L := by
  rcases h with h | ⟨b, off, e, hc⟩
  · exact .inl h
  · exact .inr ⟨b, off, e, fun i hi => ⟨cellB hb (hc i hi).1, cellB hb (hc i hi).2⟩⟩

theorem eqPr (a b c d : Int) (w : World) : (Op.equalIn 10000 29 (.agg #[.int .i64 a, .int .i64 b]) (.agg #[.int .i64 c, .int .i64 d])).run Try.prog w = .ok (a == c && b == d) w := by
  have u3 := Try.underlying3
  have a3 := Try.isAgg3
  have z3 := Try.sizeOf3
  have hS : Try.prog.underlying 29 = some (.struct (Try.prog.fieldsOf 29)) := by kernel_rfl
  rw [show (10000 : Nat) = 9999 + 1 from rfl, run_equalIn_agg w 9999 29 _ _ hS (by kernel_rfl)]
  simp only [Program.fieldsOf, Try.underlying29]
  go_simp
  by_cases h1 : a = c <;> by_cases h2 : b = d <;> simp [h1, h2]
@[go_sem high] theorem run_eqlPr (a b c d : Int) (w : World) : (binOp .eql 29 (.agg #[.int .i64 a, .int .i64 b]) (.agg #[.int .i64 c, .int .i64 d])).run Try.prog w = .ok (.bool (eqP (a, b) (c, d))) w := by
  rw [run_eql_struct, eqPr]; rfl
@[go_sem high] theorem run_neqPr (a b c d : Int) (w : World) : (binOp .neq 29 (.agg #[.int .i64 a, .int .i64 b]) (.agg #[.int .i64 c, .int .i64 d])).run Try.prog w = .ok (.bool (!eqP (a, b) (c, d))) w := by
  rw [run_neq_struct, eqPr]; rfl

theorem lineOf_any (a b : Int) (w : World) :
    Calls Try.prog 26 #[.int .i64 a, .int .i64 b] w (Ret (.agg #[.int .i64 (min a b), .int .i64 (max a b)]) w) := by
  rcases Int.lt_trichotomy a b with h | rfl | h
  · rw [Int.min_eq_left (by omega), Int.max_eq_right (by omega)]
    go_enter Try.func26, Try.ntmps26
    go_wp2
    exact bodyPost_ret (v := .agg #[.int .i64 a, .int .i64 b]) (by simp [results, Try.results26, go_sem]) rfl (Ret.mk rfl (b1 _ _))
  · rw [Int.min_eq_left (by omega), Int.max_eq_right (by omega)]
    go_enter Try.func26, Try.ntmps26
    go_wp2
    exact bodyPost_ret (v := .agg #[.int .i64 a, .int .i64 a]) (by simp [results, Try.results26, go_sem]) rfl (Ret.mk rfl (b1 _ _))
  · rw [Int.min_eq_right (by omega), Int.max_eq_left (by omega)]
    go_enter Try.func26, Try.ntmps26
    go_wp2
    exact bodyPost_ret (v := .agg #[.int .i64 b, .int .i64 a]) (by simp [results, Try.results26, go_sem]) rfl (Ret.mk rfl (b1 _ _))
theorem cross_any (a b c d : Int) (w : World) :
    Calls Try.prog 24 #[.agg #[.int .i64 a, .int .i64 b], .agg #[.int .i64 c, .int .i64 d]] w (Ret (.bool (decide (CutP (a, b) (c, d)))) w) := by
  go_enter Try.func24, Try.ntmps24
  go_wp2
  all_goals go_ret
  all_goals exact Ret.mk (ret_dec (by simp only [decide_eq_true_eq, Bool.false_eq_true, false_iff, CutP]; omega)) (b2 _ _ _)
/-- The first one that is not 0. -/
def orI (x y : Int) : Int := if x = 0 then y else x
theorem isNaN_any (a : Int) (w : World) : Calls Try.prog 42 #[.int .i64 a] w (Only (.bool false) w) := by
  go_enter Try.func42, Try.ntmps42
  go_wp2
  go_ret
  exact Only.mk (by simp)
theorem Compare_any (a b : Int) (w : World) : Calls Try.prog 30 #[.int .i64 a, .int .i64 b] w (Only (.int .i64 (cmpI a b)) w) := by
  go_enter Try.func30, Try.ntmps30
  go_wp2_with (go_at_call 42; refine (isNaN_any _ _).mono ?_; rintro e w1 ⟨rfl, rfl⟩)
  all_goals go_ret
  all_goals exact Only.mk (by unfold cmpI; (repeat' split) <;> first | rfl | (exfalso; omega))
theorem Or_any (b : Nat) (x y : Int) (w : World) (h0 : w.cell? ⟨b, 0, none⟩ = some (.int .i64 x)) (h1 : w.cell? ⟨b, 1, none⟩ = some (.int .i64 y)) :
    Calls Try.prog 29 #[.slice (some ⟨b, 0, none⟩) 2 2] w (Only (.int .i64 (orI x y)) w) := by
  cases g1 : (x != 0)
  · have hx : x = 0 := by simpa using g1
    cases g2 : (y != 0)
    · have hy : y = 0 := by simpa using g2
      replace hx := Lib.hid hx
      replace hy := Lib.hid hy
      go_enter Try.func29, Try.ntmps29
      go_wp2
      go_loop [5, 8] (fun v i => ∃ k : Nat, k ≤ 2 ∧ i = .int .i64 k) (fun _ i => 2 - (intOf i).toNat)
      case atStart => exact ⟨0, by omega, rfl⟩
      case round =>
        obtain ⟨k, hk, rfl⟩ := hrel
        obtain rfl | rfl | rfl : k = 0 ∨ k = 1 ∨ k = 2 := by omega
        · go_wp2
          go_round
          case rel => exact ⟨1, by omega, rfl⟩
          case measure => simp [intOf]
        · go_wp2
          go_round
          case rel => exact ⟨2, by omega, rfl⟩
          case measure => simp [intOf]
        · go_wp2
          go_ret
          exact Only.mk (by rw [orI, if_pos hx.out, hy.out]; rfl)
    · replace hx := Lib.hid hx
      go_enter Try.func29, Try.ntmps29
      go_wp2
      go_loop [5, 8] (fun v i => ∃ k : Nat, k ≤ 1 ∧ i = .int .i64 k) (fun _ i => 1 - (intOf i).toNat)
      case atStart => exact ⟨0, by omega, rfl⟩
      case round =>
        obtain ⟨k, hk, rfl⟩ := hrel
        obtain rfl | rfl : k = 0 ∨ k = 1 := by omega
        · go_wp2
          go_round
          case rel => exact ⟨1, by omega, rfl⟩
          case measure => simp [intOf]
        · go_wp2
          go_ret
          exact Only.mk (by rw [orI, if_pos hx.out]; rfl)
  · have hx := Lib.hid (show ¬ x = 0 by simpa using g1)
    go_enter Try.func29, Try.ntmps29
    go_wp2
    go_loop [5, 8] (fun v i => ∃ k : Nat, k ≤ 0 ∧ i = .int .i64 k) (fun _ i => 0 - (intOf i).toNat)
    case atStart => exact ⟨0, by omega, rfl⟩
    case round =>
      obtain ⟨k, hk, rfl⟩ := hrel
      obtain rfl : k = 0 := by omega
      go_wp2
      go_ret
      exact Only.mk (by rw [orI, if_neg hx.out]; rfl)

/-- The order of lines, by numbers. -/
def cmpL (p q : Int × Int) : Int := orI (cmpI p.1 q.1) (cmpI p.2 q.2)
theorem cmpL_neg {p q : Int × Int} : cmpL p q < 0 ↔ LexP p q := by
  unfold cmpL orI cmpI LexP
  (repeat' split) <;> omega
theorem cmpL_bd (p q : Int × Int) : -1 ≤ cmpL p q ∧ cmpL p q ≤ 1 := by
  unfold cmpL orI cmpI
  (repeat' split) <;> omega
set_option maxRecDepth 100000 in
theorem compare_any (a b c d : Int) (w : World) :
    Calls Try.prog 16 #[.agg #[.int .i64 a, .int .i64 b], .agg #[.int .i64 c, .int .i64 d]] w (Ret (.int .i64 (cmpL (a, b) (c, d))) w) := by
  go_enter Try.func16, Try.ntmps16
  go_wp2
  refine wp_region_ext_tail 10 (by kernel_rfl) (by kernel_rfl) ?_
  simp only [List.take_succ_cons, List.take_zero, List.drop_succ_cons, List.drop_zero]
  have x20 : (((w.alloc (.cells #[.int .i64 a, .int .i64 b] 29)).alloc (.cells #[.int .i64 c, .int .i64 d] 29))).cell? ⟨w.heap.size, 0, none⟩ = some (.int .i64 a) := by go_simp
  have x21 : (((w.alloc (.cells #[.int .i64 a, .int .i64 b] 29)).alloc (.cells #[.int .i64 c, .int .i64 d] 29))).cell? ⟨w.heap.size, 1, none⟩ = some (.int .i64 b) := by go_simp
  have x30 : (((w.alloc (.cells #[.int .i64 a, .int .i64 b] 29)).alloc (.cells #[.int .i64 c, .int .i64 d] 29))).cell? ⟨w.heap.size + 1, 0, none⟩ = some (.int .i64 c) := by go_simp
  have x31 : (((w.alloc (.cells #[.int .i64 a, .int .i64 b] 29)).alloc (.cells #[.int .i64 c, .int .i64 d] 29))).cell? ⟨w.heap.size + 1, 1, none⟩ = some (.int .i64 d) := by go_simp
  have B := b2 w (.cells #[.int .i64 a, .int .i64 b] 29) (.cells #[.int .i64 c, .int .i64 d] 29)
  generalize ((w.alloc (.cells #[.int .i64 a, .int .i64 b] 29)).alloc (.cells #[.int .i64 c, .int .i64 d] 29)) = W at *
  replace x20 := cellX x20
  replace x21 := cellX x21
  replace x30 := cellX x30
  replace x31 := cellX x31
  repeat (go_big_quiet_step ((go_at_call 30; exact onlyE (Compare_any _ _ _))))
  refine wpQuiet_nil ?_
  rintro ⟨w1, hw1⟩
  dsimp only
  replace B := nextB B hw1
  clear x20 x21 x30 x31
  go_wp2_with (go_at_call 29; refine (Or_any _ (cmpI a c) (cmpI b d) _ (by go_simp) (by go_simp)).mono ?_; rintro e w2 ⟨rfl, rfl⟩)
  go_ret
  exact Ret.mk rfl (nextB B (b1 _ _))
end
section
open Go Go.RowKit

theorem prs_at {w : World} {a : Option Addr} {L : List (Int × Int)} (h : Prs w a L) (hn : 0 < L.length) :
    ∃ b off, a = some ⟨b, off, none⟩ ∧ ∀ i, i < L.length → w.cell? ⟨b, off + i * 2, none⟩ = some (.int .i64 (pth L i).1) ∧ w.cell? ⟨b, off + i * 2 + 1, none⟩ = some (.int .i64 (pth L i).2) := by
  rcases h with h | h
  · omega
  · exact h
/-- Where a pair stands in a list. -/
def PlaceOf (L : List (Int × Int)) (q : Int × Int) (r : Int) : Prop := -1 ≤ r ∧ (0 ≤ r ↔ q ∈ L)
set_option maxRecDepth 100000 in
set_option maxHeartbeats 800000 in
theorem index_any (a : Option Addr) (n c : Nat) (L : List (Int × Int)) (q0 q1 : Int) (w : World) (h : Prs w a L) (hn : L.length = n) (hm : n ≤ 4611686018427387904) :
    Calls Try.prog 46 #[.slice a n c, .agg #[.int .i64 q0, .int .i64 q1]] w fun e w' => ∃ r, e = .returned (.int .i64 r) ∧ PlaceOf L (q0, q1) r ∧ Below w.heap.size w w' := by
  by_cases h0 : n = 0
  · subst h0
    have hn := Lib.hid hn
    go_enter Try.func46, Try.ntmps46
    go_wp2
    go_loop [5, 8] (fun v i => i = .int .i64 0) (fun _ i => 0)
    case atStart => rfl
    case round =>
      subst hrel
      go_wp2
      go_ret
      refine ⟨_, rfl, ⟨by omega, ?_⟩, b1 _ _⟩
      have := List.eq_nil_of_length_eq_zero hn.out
      subst this
      simp
  · obtain ⟨b, off, rfl, hc⟩ := prs_at h (by omega)
    rw [hn] at hc
    replace hc := Lib.hid hc
    have hn := Lib.hid hn
    clear h
    go_enter Try.func46, Try.ntmps46
    go_wp2
    have hb0 := b1 w (.cells #[.int .i64 q0, .int .i64 q1] 29)
    have hbx : Box2 (w.alloc (.cells #[.int .i64 q0, .int .i64 q1] 29)) w.heap.size q0 q1 := ⟨by go_simp, by go_simp⟩
    go_loopw [5, 8] (fun v i wr => ∃ k : Nat, k ≤ n ∧ i = .int .i64 k ∧ (∀ j, j < k → pth L j ≠ (q0, q1)) ∧ Box2 wr w.heap.size q0 q1 ∧ Below w.heap.size w wr) (fun _ i _ => n - (intOf i).toNat)
    case atStart => exact ⟨0, by omega, rfl, fun j hj => absurd hj (by omega), hbx, hb0⟩
    case round =>
      clear hbx hb0
      obtain ⟨k, hk, rfl, hno, hbx, B0⟩ := hrel
      have hno := Lib.hid hno
      by_cases hlt : k < n
      · obtain ⟨e0, e1⟩ := hc.out k hlt
        have x0 := cellX (cellB B0 e0)
        have x1 := cellX (cellB B0 e1)
        have y0 := cellX hbx.1
        have y1 := cellX hbx.2
        clear e0 e1
        have hi0 : (0 : Int) ≤ (k : Int) := by omega
        have hi1 : (k : Int) < (n : Int) := by omega
        go_wp2
        refine wp_region_ext (by kernel_rfl) (by kernel_rfl) ?_
        repeat (go_big_quiet_step (fail))
        refine wpQuiet_nil ?_
        rintro ⟨w1, hw1⟩
        dsimp only
        replace B0 := nextB B0 hw1
        replace hbx := hbx.next hw1
        clear x0 x1 y0 y1
        cases g : eqP (q0, q1) ((pth L k).1, (pth L k).2)
        · go_wp2
          go_roundw
          case rel => exact ⟨k + 1, by omega, by go_num, fun j hj => (by
            by_cases hjk : j = k
            · subst hjk; exact fun e => eqP_not.1 g e.symm
            · exact hno.out j (by omega)), hbx, B0⟩
          case measure => simp [intOf]; omega
        · go_wp2
          go_ret
          exact ⟨k, rfl, ⟨by omega, ⟨fun _ => by have := eqP_iff.1 g; rw [this]; exact pth_mem (by rw [hn.out]; exact hlt), fun _ => by omega⟩⟩, B0⟩
      · go_wp2
        go_ret
        refine ⟨_, rfl, ⟨by omega, ⟨fun h => absurd h (by omega), fun hq => ?_⟩⟩, B0⟩
        obtain ⟨i, hi, e⟩ := mem_pth hq
        exact absurd e (hno.out i (by rw [hn.out] at hi; omega))
theorem contains_any (a : Option Addr) (n c : Nat) (L : List (Int × Int)) (q0 q1 : Int) (w : World) (h : Prs w a L) (hn : L.length = n) (hm : n ≤ 4611686018427387904) :
    Calls Try.prog 38 #[.slice a n c, .agg #[.int .i64 q0, .int .i64 q1]] w (Ret (.bool (decide ((q0, q1) ∈ L))) w) := by
  have H := fun W hW => index_any a n c L q0 q1 W hW hn hm
  replace H := Lib.hid H
  have h := Lib.hid h
  replace hn := Lib.hid hn
  go_enter Try.func38, Try.ntmps38
  go_wp2_with (go_at_call 46; refine (H.out _ (h.out.next (b1 _ _))).mono ?_; rintro e w1 ⟨r, rfl, hr, hb1⟩; replace hr := Lib.hid hr)
  go_ret
  refine Ret.mk ?_ (nextB (b1 _ _) hb1)
  have := hr.out.2
  by_cases hq : (q0, q1) ∈ L
  · have := this.2 hq; simp [hq, this]
  · have : ¬ 0 ≤ r := fun h => hq (this.1 h); simp [hq]; omega
/-- Two corners are neighbours, or joined by a line. -/
def NearP (n : Int) (L : List (Int × Int)) (i k : Int) : Prop := Nbr n i k ∨ (min i k, max i k) ∈ L
instance (n : Int) (L : List (Int × Int)) (i k : Int) : Decidable (NearP n L i k) := by unfold NearP; infer_instance
end
section
open Go Go.RowKit

set_option maxRecDepth 100000 in
set_option maxHeartbeats 800000 in
theorem joined_any (a : Option Addr) (m cp : Nat) (L : List (Int × Int)) (n c d : Int) (w : World) (h : Prs w a L) (hl : L.length = m) (hm : m ≤ 4611686018427387904)
    (h1 : 1 ≤ n) (h2 : 0 ≤ c) (h3 : c ≤ 1000) (h4 : 0 ≤ d) (h5 : d ≤ 1000) :
    Calls Try.prog 25 #[.agg #[.int .i64 n, .slice a m cp], .int .i64 c, .int .i64 d] w (Ret (.bool (decide (NearP n L c d))) w) := by
  have N := fun W => neighbours_any n c d W h1 h2 h3 h4 h5
  have C := fun W hW => contains_any a m cp L (min c d) (max c d) W hW hl hm
  replace C := Lib.hid C
  have h := Lib.hid h
  clear hl
  cases g : decide (Nbr n c d)
  all_goals
    simp only [g] at N
    replace g := Lib.hid g
    go_enter Try.func25, Try.ntmps25
    go_wp2
    have B := b1 w (.cells #[.int .i64 n, .slice a m cp] 42)
    have y0 : (w.alloc (.cells #[.int .i64 n, .slice a m cp] 42)).cell? ⟨w.heap.size, 0, none⟩ = some (.int .i64 n) := by go_simp
    have y1 : (w.alloc (.cells #[.int .i64 n, .slice a m cp] 42)).cell? ⟨w.heap.size, 1, none⟩ = some (.slice a m cp) := by go_simp
    replace y0 := cellX y0
    replace y1 := cellX y1
    have h := Lib.hid (h.out.next B)
    generalize (w.alloc (.cells #[.int .i64 n, .slice a m cp] 42)) = W at *
    refine wp_region_ext (by kernel_rfl) (by kernel_rfl) ?_
    repeat (go_big_quiet_step ((first
      | (go_at_call 37; exact onlyE (N _))
      | (go_at_call 26; exact callE (lineOf_any _ _ _))
      | (go_at_call 38; exact callE (C.out _ (h.out.next (Ext.ok _)))))))
    refine wpQuiet_nil ?_
    rintro ⟨w1, hw1⟩
    dsimp only
    go_wp2
    go_ret
    have g := g.out
    exact Ret.mk (by simp_all [NearP]) (nextB B hw1)

end
section
open Go Go.RowKit

/-- Line i is one, and comes behind all lines before it, and crosses none of them. -/
def OkL (n : Int) (L : List (Int × Int)) (i : Nat) : Prop := LineP n (pth L i) ∧ ∀ k, k < i → LexP (pth L k) (pth L i) ∧ ¬ CutP (pth L k) (pth L i)
instance (n L i) : Decidable (OkL n L i) := by unfold OkL; infer_instance
/-- The lines cut a polygon of n corners into triangles, and are in order. -/
def BrandP (n : Int) (L : List (Int × Int)) : Prop := 3 ≤ n ∧ n ≤ 12 ∧ (L.length : Int) = n - 3 ∧ ∀ i, i < L.length → OkL n L i
instance (n L) : Decidable (BrandP n L) := by unfold BrandP; infer_instance
/-- What brandOf returns. -/
def brandV (n : Int) (a : Option Addr) (m c : Nat) (b : Bool) : Value := if b = true then .tuple #[.agg #[.int .i64 n, .slice a m c], .bool true] else .tuple #[.agg #[.int .i64 0, .slice none 0 0], .bool false]
theorem brandV_no {n : Int} {a : Option Addr} {m c : Nat} {L : List (Int × Int)} (h : ¬ BrandP n L) : brandV n a m c (decide (BrandP n L)) = .tuple #[.agg #[.int .i64 0, .slice none 0 0], .bool false] := by rw [decide_eq_false h]; rfl
theorem brandV_yes {n : Int} {a : Option Addr} {m c : Nat} {L : List (Int × Int)} (h : BrandP n L) : brandV n a m c (decide (BrandP n L)) = .tuple #[.agg #[.int .i64 n, .slice a m c], .bool true] := by rw [decide_eq_true h]; rfl

set_option maxRecDepth 100000 in
set_option maxHeartbeats 1600000 in
theorem brandOf_out (n : Int) (a : Option Addr) (m c : Nat) (L : List (Int × Int)) (w : World) (hl : L.length = m) (_hm : m ≤ 4611686018427387904) (hh : ¬ (3 ≤ n ∧ n ≤ 12 ∧ (m : Int) = n - 3)) :
    Calls Try.prog 13 #[.int .i64 n, .slice a m c] w (Ret (brandV n a m c (decide (BrandP n L))) w) := by
  rw [brandV_no (show ¬ BrandP n L from fun h => hh ⟨h.1, h.2.1, by have := h.2.2.1; omega⟩)]
  clear hl
  by_cases h1 : n < 3
  · clear hh
    go_enter Try.func13, Try.ntmps13
    go_wp2
    exact bodyPost_ret (v := .tuple #[.agg #[.int .i64 0, .slice none 0 0], .bool false]) (by simp [results, Try.results13, go_sem]) rfl (Ret.mk rfl (b1 _ _))
  · by_cases h2 : 12 < n
    · clear hh
      go_enter Try.func13, Try.ntmps13
      go_wp2
      exact bodyPost_ret (v := .tuple #[.agg #[.int .i64 0, .slice none 0 0], .bool false]) (by simp [results, Try.results13, go_sem]) rfl (Ret.mk rfl (b1 _ _))
    · have g : ((m : Int) != n - 3) = true := by rw [bne_iff_ne]; omega
      clear hh
      go_enter Try.func13, Try.ntmps13
      go_wp2
      exact bodyPost_ret (v := .tuple #[.agg #[.int .i64 0, .slice none 0 0], .bool false]) (by simp [results, Try.results13, go_sem]) rfl (Ret.mk rfl (b1 _ _))

set_option maxRecDepth 100000 in
set_option maxHeartbeats 1600000 in
theorem brandOf_three (a : Option Addr) (c : Nat) (w : World) :
    Calls Try.prog 13 #[.int .i64 3, .slice a (0 : Nat) c] w (Ret (.tuple #[.agg #[.int .i64 3, .slice a (0 : Nat) c], .bool true]) w) := by
  go_enter Try.func13, Try.ntmps13
  go_wp2
  go_loop [26] (fun i => i = .int .i64 0) (fun i => 0)
  case atStart => rfl
  case round =>
    subst hrel
    go_wp2
    exact bodyPost_ret (v := .tuple #[.agg #[.int .i64 3, .slice a (0 : Nat) c], .bool true]) (by simp [results, Try.results13, go_sem]) rfl (Ret.mk rfl (b1 _ _))
end
end Go.Proofs.Ytkbdclladfjmcaa
