/- Layer 1: to which sides a pen turns. -/
import Derived.Test.YtnjegnlfdbbleaaW
namespace Go.Proofs.Ytnjegnlfdbbleaa
open Go Go.RowKit Go.Shelf
attribute [local go_sem] Oper.semAt_some

/-- Block B is a spot's box. -/
def BoxS (W : World) (B : Nat) (q : Int × Int) : Prop := W.heap[B]? = some (.cells #[.int .i64 q.1, .int .i64 q.2] 65 (0, 0))
theorem BoxS.lt {W : World} {B : Nat} {q : Int × Int} (h : BoxS W B q) : B < W.heap.size := (Array.getElem?_eq_some_iff.1 h).1
theorem BoxS.ext {W W' : World} {B : Nat} {q : Int × Int} (h : BoxS W B q) (hb : Below W.heap.size W W') : BoxS W' B q := (hb.block _ h.lt).trans h
theorem BoxS.c0 {W : World} {B : Nat} {q : Int × Int} (h : BoxS W B q) : W.cell? ⟨B, 0, none⟩ = some (.int .i64 q.1) := by unfold BoxS at h; simp [World.cell?, h]
theorem BoxS.c1 {W : World} {B : Nat} {q : Int × Int} (h : BoxS W B q) : W.cell? ⟨B, 1, none⟩ = some (.int .i64 q.2) := by unfold BoxS at h; simp [World.cell?, h]
theorem BoxS.fr {W : World} {B : Nat} {q : Int × Int} (h : BoxS W B q) (i : Nat) : W.frozen? ⟨B, i, none⟩ = false := by unfold BoxS at h; simp [World.frozen?, h]
theorem BoxS.other {W : World} {B B' i : Nat} {q : Int × Int} (h : BoxS W B q) (hne : B ≠ B') (u : Value) : BoxS (W.setCell ⟨B', i, none⟩ u) B q := (Below.heap_setCell W ⟨B', i, none⟩ u B hne).trans h
theorem BoxS.set {W : World} {B : Nat} {q : Int × Int} (h : BoxS W B q) (x y : Int) : BoxS ((W.setCell ⟨B, 0, none⟩ (.int .i64 x)).setCell ⟨B, 1, none⟩ (.int .i64 y)) B (x, y) := by
  unfold BoxS at *
  simp [World.setCell, Array.getElem?_modify, h]
theorem boxed_ext {W W' : World} {B : Nat} {t : TypeId} {v : Value} (h : Boxed W B t v) (hb : Below W.heap.size W W') : Boxed W' B t v := (hb.block _ h.lt).trans h
theorem boxed_other {W : World} {B B' i : Nat} {t : TypeId} {v : Value} (h : Boxed W B t v) (hne : B ≠ B') (u : Value) : Boxed (W.setCell ⟨B', i, none⟩ u) B t v := (Below.heap_setCell W ⟨B', i, none⟩ u B hne).trans h
theorem boxS_own {β : Type} (B : Nat) (f : β → Int × Int) : Own (fun s W => BoxS W B (f s)) := fun s X Y row hs hg hrow =>
  (hg.block B hs.lt (fun e' => by
    obtain ⟨o, ho, hc⟩ := hrow B e'.symm
    rw [show X.heap[B]? = _ from hs] at ho
    cases ho
    cases hc)).trans hs
/-- A store into a block of the call's own, beyond n₀ and other than Bs. -/
theorem KeepB.set {n₀ Bs : Nat} {W W' : World} (h : KeepB n₀ Bs W W') {B i : Nat} (hn : n₀ ≤ B) (hB : Bs ≠ B) (u : Value) : KeepB n₀ Bs W (W'.setCell ⟨B, i, none⟩ u) :=
  h.trans ⟨(Below.refl _ _).setCell (p := ⟨B, i, none⟩) hn _, Below.heap_setCell _ _ _ _ hB⟩
theorem keepsFrom_set {B : Nat} {W W' : World} (h : KeepsFrom B W W') (a : Addr) (u : Value) : KeepsFrom B W (W'.setCell a u) := h.trans ((KeepsOthers.setCell _ _ _).from _)
theorem size_set {m : Nat} {W : World} (h : m ≤ W.heap.size) (a : Addr) (u : Value) : m ≤ (W.setCell a u).heap.size := by simpa [World.setCell] using h

structure Bend where
  left : Int
  right : Int
  before : Int × Int
def bstep (s : Bend) (q : (Int × Int) × (Int × Int)) : Bend :=
  ⟨if 0 < crossI s.before q.1 q.2 then s.left + 1 else s.left, if crossI s.before q.1 q.2 < 0 then s.right + 1 else s.right, q.1⟩
def bendL (q : Int × Int) (pre : List Side) : Bend := pre.foldl (fun s x => bstep s x.1) ⟨0, 0, q⟩
theorem bendL_snoc (q : Int × Int) (pre : List Side) (x : Side) : bendL q (pre ++ [x]) = bstep (bendL q pre) x.1 := by simp [bendL]
theorem bendL_bd {q : Int × Int} (hq : Sm 50 q) (pre : List Side) : 0 ≤ (bendL q pre).left ∧ (bendL q pre).left ≤ pre.length ∧ 0 ≤ (bendL q pre).right ∧ (bendL q pre).right ≤ pre.length ∧ Sm 50 (bendL q pre).before := by
  suffices H : ∀ (pre : List Side) (s : Bend) (m : Int), 0 ≤ s.left ∧ s.left ≤ m ∧ 0 ≤ s.right ∧ s.right ≤ m ∧ Sm 50 s.before →
      0 ≤ (pre.foldl (fun s x => bstep s x.1) s).left ∧ (pre.foldl (fun s x => bstep s x.1) s).left ≤ m + pre.length ∧ 0 ≤ (pre.foldl (fun s x => bstep s x.1) s).right ∧ (pre.foldl (fun s x => bstep s x.1) s).right ≤ m + pre.length ∧ Sm 50 (pre.foldl (fun s x => bstep s x.1) s).before by
    have := H pre ⟨0, 0, q⟩ 0 ⟨by simp, by simp, by simp, by simp, hq⟩
    unfold bendL
    refine ⟨this.1, by omega, this.2.2.1, by omega, this.2.2.2.2⟩
  intro pre
  induction pre with
  | nil => intro s m h; simpa using h
  | cons x pre ih =>
    intro s m ⟨h1, h2, h3, h4, h5⟩
    have := ih (bstep s x.1) (m + 1) ⟨by unfold bstep; dsimp only; split <;> omega, by unfold bstep; dsimp only; split <;> omega, by unfold bstep; dsimp only; split <;> omega, by unfold bstep; dsimp only; split <;> omega, x.2.1⟩
    simp only [List.foldl_cons, List.length_cons, Int.natCast_add, Int.natCast_one]
    refine ⟨this.1, by omega, this.2.2.1, by omega, this.2.2.2.2⟩

set_option maxRecDepth 100000 in
set_option maxHeartbeats 4000000 in
theorem bends_any0 (b off n c : Nat) (p : Nat → Int × Int) (w : World) (h1 : 1 ≤ n) (h10 : n ≤ 10) (hs : ∀ i, i < n → Sm 50 (p i))
    (hc : ∀ i, i < n → w.cell? ⟨b, off + i * 2, none⟩ = some (.int .i64 (p i).1) ∧ w.cell? ⟨b, off + i * 2 + 1, none⟩ = some (.int .i64 (p i).2)) :
    Calls Try.prog 40 #[.slice (some ⟨b, off, none⟩) n c] w fun e w' => Below w.heap.size w w' ∧ ∃ ys : List Side, ys.map (·.1) = sidesTo n p n ∧
      e = .returned (.tuple #[.int .i64 (bendL (p (n - 1)) ys).left, .int .i64 (bendL (p (n - 1)) ys).right]) := by
  have hb : b < w.heap.size := block_lt_of_cell (hc 0 (by omega)).1
  obtain ⟨m, rfl⟩ : ∃ m, n = m + 1 := ⟨n - 1, by omega⟩
  obtain ⟨e0, e1⟩ := hc m (by omega)
  have hqm := hs m (by omega)
  rw [show m + 1 - 1 = m by omega]
  refine (callsIn_wide (n := 11)).1 (callsIn_of_wp_marks Try.func40 rfl trivial ?_ rfl)
  simp only [Try.ntmps40, List.size_toArray, List.length_cons, List.length_nil, Nat.reduceAdd, Nat.reduceSub, Array.replicate_succ, Array.replicate_zero, List.push_toArray, List.append_toArray, List.nil_append, List.cons_append]
  have hc := Lib.hid hc
  have hs := Lib.hid hs
  have hqm := Lib.hid hqm
  have hb1 : b < w.heap.size + 1 := by omega
  gi_wp2_with fail
  refine ⟨trivial, (callsIn_wide.2 (sides_any _ _ _ _)).mono ?_⟩
  rintro e w' ⟨rfl, rfl⟩
  simp only [World.size_alloc]
  gi_wp2_with fail
  have hW0 : Below w.heap.size w ((((w.alloc (.cells #[.int .i64 0] 3)).alloc (.cells #[.int .i64 0] 3)).alloc (.cells #[.int .i64 (p m).1, .int .i64 (p m).2] 65)).alloc (.cells #[.slice (some ⟨b, off, none⟩) (m + 1) c] 54)) := b4 _ _ _ _ _
  have bL : Boxed ((((w.alloc (.cells #[.int .i64 0] 3)).alloc (.cells #[.int .i64 0] 3)).alloc (.cells #[.int .i64 (p m).1, .int .i64 (p m).2] 65)).alloc (.cells #[.slice (some ⟨b, off, none⟩) (m + 1) c] 54)) w.heap.size 3 (.int .i64 0) := ((((Boxed.new w _ _).alloc _).alloc _).alloc _)
  have bR : Boxed ((((w.alloc (.cells #[.int .i64 0] 3)).alloc (.cells #[.int .i64 0] 3)).alloc (.cells #[.int .i64 (p m).1, .int .i64 (p m).2] 65)).alloc (.cells #[.slice (some ⟨b, off, none⟩) (m + 1) c] 54)) (w.heap.size + 1) 3 (.int .i64 0) := by
    have := (((Boxed.new (w.alloc (.cells #[.int .i64 0] 3)) 3 (.int .i64 0)).alloc (.cells #[.int .i64 (p m).1, .int .i64 (p m).2] 65)).alloc (.cells #[.slice (some ⟨b, off, none⟩) (m + 1) c] 54))
    rwa [World.size_alloc] at this
  have bF : BoxS ((((w.alloc (.cells #[.int .i64 0] 3)).alloc (.cells #[.int .i64 0] 3)).alloc (.cells #[.int .i64 (p m).1, .int .i64 (p m).2] 65)).alloc (.cells #[.slice (some ⟨b, off, none⟩) (m + 1) c] 54)) (w.heap.size + 1 + 1) (p m) := by
    have h1 := heap_alloc_new ((w.alloc (.cells #[.int .i64 0] 3)).alloc (.cells #[.int .i64 0] 3)) (.cells #[.int .i64 (p m).1, .int .i64 (p m).2] 65)
    rw [World.size_alloc, World.size_alloc] at h1
    exact (Below.heap_alloc _ _ _ (by simp)).trans h1
  have bP : Boxed ((((w.alloc (.cells #[.int .i64 0] 3)).alloc (.cells #[.int .i64 0] 3)).alloc (.cells #[.int .i64 (p m).1, .int .i64 (p m).2] 65)).alloc (.cells #[.slice (some ⟨b, off, none⟩) (m + 1) c] 54)) (w.heap.size + 1 + 1 + 1) 54 (.slice (some ⟨b, off, none⟩) (m + 1) c) := by
    have h1 := Boxed.new (((w.alloc (.cells #[.int .i64 0] 3)).alloc (.cells #[.int .i64 0] 3)).alloc (.cells #[.int .i64 (p m).1, .int .i64 (p m).2] 65)) 54 (.slice (some ⟨b, off, none⟩) (m + 1) c)
    rwa [World.size_alloc, World.size_alloc, World.size_alloc] at h1
  have hsz : ((((w.alloc (.cells #[.int .i64 0] 3)).alloc (.cells #[.int .i64 0] 3)).alloc (.cells #[.int .i64 (p m).1, .int .i64 (p m).2] 65)).alloc (.cells #[.slice (some ⟨b, off, none⟩) (m + 1) c] 54)).heap.size = w.heap.size + 4 := by simp
  clear e0 e1
  generalize hWW : ((((w.alloc (.cells #[.int .i64 0] 3)).alloc (.cells #[.int .i64 0] 3)).alloc (.cells #[.int .i64 (p m).1, .int .i64 (p m).2] 65)).alloc (.cells #[.slice (some ⟨b, off, none⟩) (m + 1) c] 54)) = W0 at *
  clear hWW
  refine wpIn_rangeFunc_ownH rfl (by omega) (gf := 64) (lb := #[.pointer (some ⟨w.heap.size + 1 + 1 + 1, 0, none⟩)]) rfl trivial (enters_of Try.func64 (by kernel_rfl) rfl)
    (sides_stops (w.heap.size + 1 + 1 + 1) w.heap.size b off (m + 1) c p W0 h1 h10 hs.out hb hW0.size bP.cell (fun i hi => ⟨cellB hW0 (hc.out i hi).1, cellB hW0 (hc.out i hi).2⟩)) KeepB.trans (keepB_b hW0.size (by omega)) (Below.refl _ _) (fun _ => rfl)
    (fun pre W => (Boxed W w.heap.size 3 (.int .i64 (bendL (p m) pre).left) ∧ Boxed W (w.heap.size + 1) 3 (.int .i64 (bendL (p m) pre).right) ∧ BoxS W (w.heap.size + 1 + 1) (bendL (p m) pre).before) ∧ Below w.heap.size w W ∧ W0.heap.size ≤ W.heap.size)
    (fun _ _ _ => False)
    (OwnFrom.and (OwnFrom.and (Own.from (boxed_own _ _ _) _) (OwnFrom.and (Own.from (boxed_own _ _ _) _) (Own.from (boxS_own _ _) _))) (OwnFrom.and (ownFrom_below (Nat.le_refl _) (by omega)) (fun _ _ _ _ hs hg _ => Nat.le_trans hs hg.size)))
    (fun _ _ _ _ _ hs _ _ => hs)
    ⟨⟨bL, bR, bF⟩, hW0, Nat.le_refl _⟩
    (fun x a' W => ∃ B1 B2, w.heap.size + 1 + 1 < B1 ∧ w.heap.size + 1 + 1 < B2 ∧ Box2 W B1 x.1.1.1 x.1.1.2 ∧ Box2 W B2 x.1.2.1 x.1.2.2 ∧ a' = { tmps := #[.slice (some ⟨b, off, none⟩) (m + 1) c, undef, .int .i64 0, .int .i64 0, .pointer (some ⟨w.heap.size, 0, none⟩), .pointer (some ⟨w.heap.size + 1, 0, none⟩), .pointer (some ⟨w.heap.size + 1 + 1, 0, none⟩), .pointer (some ⟨B1, 0, none⟩), .pointer (some ⟨B2, 0, none⟩), undef, .slice (some ⟨b, off, none⟩) (m + 1) c, .slice (some ⟨b, off, none⟩) (m + 1) c, .int .i64 ((m : Int) + 1), .int .i64 (m : Int), .pointer (some ⟨b, off + m * 2, none⟩), .agg #[.int .i64 (p m).1, .int .i64 (p m).2], .slice (some ⟨b, off, none⟩) (m + 1) c, .func (.func 64) #[] #[.pointer (some ⟨w.heap.size + 1 + 1 + 1, 0, none⟩)], .agg #[.int .i64 x.1.1.1, .int .i64 x.1.1.2], .agg #[.int .i64 x.1.2.1, .int .i64 x.1.2.2], undef, undef, undef, undef, undef, undef, undef, undef, undef, undef, undef, undef, undef, undef, undef], defers := [] })
    (fun x a' _ X Y row hs hg hr => by obtain ⟨B1, B2, q1, q2, q3, q4, q5⟩ := hs; exact ⟨B1, B2, q1, q2, box2_own q3 hg (fun r e => (hr r e).2), box2_own q4 hg (fun r e => (hr r e).2), q5⟩)
    ?assign ?body ?done ?stop
  case assign =>
    rintro l pre x W K ⟨⟨bL1, bR1, bF1⟩, hB1, hz1⟩ hK
    have hd : Below W.heap.size W ((W.alloc (.cells #[.int .i64 x.1.1.1, .int .i64 x.1.1.2] 65)).alloc (.cells #[.int .i64 x.1.2.1, .int .i64 x.1.2.2] 65)) := b2 _ _ _
    have hd := Lib.hid hd
    gi_wp2
    exact hK _ _ (keepsFrom_of hd.out) (KeepB.ext hB1.size (by omega) hd.out) ⟨⟨boxed_ext bL1 hd.out, boxed_ext bR1 hd.out, bF1.ext hd.out⟩, nextB hB1 hd.out, Nat.le_trans hz1 hd.out.size⟩
      ⟨W.heap.size, W.heap.size + 1, by omega, by omega, ⟨by go_simp, by go_simp⟩, ⟨by go_simp, by go_simp⟩, rfl⟩
  case body =>
    rintro l pre x a' W hl ⟨r, hr⟩ ⟨⟨bL1, bR1, bF1⟩, hB1, hz1⟩ ⟨B1, B2, hl1, hl2, K1, K2, rfl⟩ hlt
    obtain ⟨v1, v2, v3, v4, v5⟩ := bendL_bd hqm.out pre
    have S0 : Sm 1048576 ((bendL (p m) pre).before.1, (bendL (p m) pre).before.2) := v5.mono (by omega)
    have S1 : Sm 1048576 (x.1.1.1, x.1.1.2) := x.2.1.mono (by omega)
    have S2 : Sm 1048576 (x.1.2.1, x.1.2.2) := x.2.2.mono (by omega)
    have w2 : (bendL (p m) pre).left ≤ 10 := by omega
    have w4 : (bendL (p m) pre).right ≤ 10 := by omega
    clear v2 v4 v5
    have f0 := bF1.c0
    have f1 := bF1.c1
    obtain ⟨k10, k11⟩ := id K1
    obtain ⟨k20, k21⟩ := id K2
    gi_wp2_with fail
    refine ⟨trivial, (CallsIn.inRound l (callsIn_wide.2 (turn_any _ _ _ _ _ _ _ (by assumption) (by assumption) (by assumption)))).mono ?_⟩
    rintro e w2 ⟨rfl, hb2⟩
    dsimp only
    have bL2 := boxed_ext bL1 hb2
    have bR2 := boxed_ext bR1 hb2
    have bF2 := bF1.ext hb2
    replace K1 := K1.next hb2
    have cL := bL2.cell
    have cR := bR2.cell
    have fL := bL2.frozen
    have fR := bR2.frozen
    have g0 := bF2.c0
    have g1 := bF2.c1
    have g2 := bF2.fr 0
    have g3 := bF2.fr 1
    have hb2 := Lib.hid hb2
    have hsn := Lib.hid (bendL_snoc (p m) pre x)
    clear f0 f1 k10 k11 k20 k21 K2
    obtain ⟨k10, k11⟩ := id K1
    rcases Int.lt_trichotomy (crossI ((bendL (p m) pre).before.1, (bendL (p m) pre).before.2) (x.1.1.1, x.1.1.2) (x.1.2.1, x.1.2.2)) 0 with hlt0 | heq0 | hgt0
    · have ht1 : Hid (¬ 0 < crossI (bendL (p m) pre).before x.1.1 x.1.2) := Lib.hid (by intro h; have h' : crossI (bendL (p m) pre).before x.1.1 x.1.2 < 0 := hlt0; omega)
      have ht : Hid (crossI (bendL (p m) pre).before x.1.1 x.1.2 < 0) := Lib.hid hlt0
      gi_wp2
      refine ⟨keepsFrom_set (keepsFrom_set (keepsFrom_set (keepsFrom_of hb2.out) _ _) _ _) _ _, ((((KeepB.ext hB1.size (by omega) hb2.out).set (by omega) (by omega) _).set (by omega) (by omega) _).set (by omega) (by omega) _), ⟨?_, ?_, ?_⟩, ((((nextB hB1 hb2.out).setCell (p := ⟨w.heap.size + 1, 0, none⟩) (by simp; try omega) _).setCell (p := ⟨w.heap.size + 1 + 1, 0, none⟩) (by simp; try omega) _).setCell (p := ⟨w.heap.size + 1 + 1, 1, none⟩) (by simp; try omega) _), (size_set (size_set (size_set (by have := hb2.out.size; omega) _ _) _ _) _ _)⟩
      · rw [hsn.out]
        exact cast (by unfold bstep; dsimp only; rw [if_neg (by have := ht1.out; omega)]) (boxed_other (boxed_other (boxed_other bL2 (by omega) _) (by omega) _) (by omega) _)
      · rw [hsn.out]
        exact cast (by unfold bstep; dsimp only; rw [if_pos ht.out]) (boxed_other (boxed_other (bR2.set _) (by omega) _) (by omega) _)
      · rw [hsn.out]
        exact ((bF2.other (by omega) _).set _ _)

    · have ht1 : Hid (¬ 0 < crossI (bendL (p m) pre).before x.1.1 x.1.2) := Lib.hid (by intro h; have h' : crossI (bendL (p m) pre).before x.1.1 x.1.2 = 0 := heq0; omega)
      have ht2 : Hid (¬ crossI (bendL (p m) pre).before x.1.1 x.1.2 < 0) := Lib.hid (by intro h; have h' : crossI (bendL (p m) pre).before x.1.1 x.1.2 = 0 := heq0; omega)
      have hle : crossI ((bendL (p m) pre).before.1, (bendL (p m) pre).before.2) (x.1.1.1, x.1.1.2) (x.1.2.1, x.1.2.2) ≤ 0 := by omega
      have hge : 0 ≤ crossI ((bendL (p m) pre).before.1, (bendL (p m) pre).before.2) (x.1.1.1, x.1.1.2) (x.1.2.1, x.1.2.2) := by omega
      clear heq0
      gi_wp2
      refine ⟨keepsFrom_set (keepsFrom_set (keepsFrom_of hb2.out) _ _) _ _, (((KeepB.ext hB1.size (by omega) hb2.out).set (by omega) (by omega) _).set (by omega) (by omega) _), ⟨?_, ?_, ?_⟩, (((nextB hB1 hb2.out).setCell (p := ⟨w.heap.size + 1 + 1, 0, none⟩) (by simp; try omega) _).setCell (p := ⟨w.heap.size + 1 + 1, 1, none⟩) (by simp; try omega) _), (size_set (size_set (by have := hb2.out.size; omega) _ _) _ _)⟩
      · rw [hsn.out]
        exact cast (by unfold bstep; dsimp only; rw [if_neg (by have := ht1.out; omega)]) (boxed_other (boxed_other bL2 (by omega) _) (by omega) _)
      · rw [hsn.out]
        exact cast (by unfold bstep; dsimp only; rw [if_neg (by have := ht2.out; omega)]) (boxed_other (boxed_other bR2 (by omega) _) (by omega) _)
      · rw [hsn.out]
        exact (bF2.set _ _)

    · have ht : Hid (0 < crossI (bendL (p m) pre).before x.1.1 x.1.2) := Lib.hid hgt0
      have ht2 : Hid (¬ crossI (bendL (p m) pre).before x.1.1 x.1.2 < 0) := Lib.hid (by intro h; have h' : 0 < crossI (bendL (p m) pre).before x.1.1 x.1.2 := hgt0; omega)
      gi_wp2
      refine ⟨keepsFrom_set (keepsFrom_set (keepsFrom_set (keepsFrom_of hb2.out) _ _) _ _) _ _, ((((KeepB.ext hB1.size (by omega) hb2.out).set (by omega) (by omega) _).set (by omega) (by omega) _).set (by omega) (by omega) _), ⟨?_, ?_, ?_⟩, ((((nextB hB1 hb2.out).setCell (p := ⟨w.heap.size, 0, none⟩) (by simp; try omega) _).setCell (p := ⟨w.heap.size + 1 + 1, 0, none⟩) (by simp; try omega) _).setCell (p := ⟨w.heap.size + 1 + 1, 1, none⟩) (by simp; try omega) _), (size_set (size_set (size_set (by have := hb2.out.size; omega) _ _) _ _) _ _)⟩
      · rw [hsn.out]
        exact cast (by unfold bstep; dsimp only; rw [if_pos ht.out]) (boxed_other (boxed_other (bL2.set _) (by omega) _) (by omega) _)
      · rw [hsn.out]
        exact cast (by unfold bstep; dsimp only; rw [if_neg (by have := ht2.out; omega)]) (boxed_other (boxed_other (boxed_other bR2 (by omega) _) (by omega) _) (by omega) _)
      · rw [hsn.out]
        exact ((bF2.other (by omega) _).set _ _)

  case done =>
    rintro D zs W hD hz ⟨⟨bL1, bR1, bF1⟩, hB1, hz1⟩ hK
    have cL := bL1.cell
    have cR := bR1.cell
    have hz := Lib.hid hz
    gi_wp2
    have xL := cellX cL
    have xR := cellX cR
    refine wpIn_wide_ext (by kernel_rfl) (by kernel_rfl) (by kernel_rfl) ?_
    repeat (go_big_quiet_step (fail))
    refine wpQuiet_nil ?_
    intro y
    have hK' := (y.ok.block D (Array.getElem?_eq_some_iff.1 hK).1).trans hK
    clear xL xR
    gi_wp2
    refine ⟨by simp, .inl ⟨_, _, rfl, run_takeDeferred hK', ?_⟩⟩
    exact ⟨_, results_tmp2 rfl _ _ _, (nextB hB1 y.ok).trans (belowK_b (w := w) (Nat.le_refl _) y.world D _ _ (by omega) hK' rfl rfl), zs, hz.out, rfl⟩
  case stop =>
    rintro D c pre W _ _ h _
    exact h.elim
end Go.Proofs.Ytnjegnlfdbbleaa
