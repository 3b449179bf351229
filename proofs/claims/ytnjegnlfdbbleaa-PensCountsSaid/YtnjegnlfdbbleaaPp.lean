/- Layer 1: the specification's place of a point. -/
import Derived.Test.YtnjegnlfdbbleaaGc
namespace Go.Proofs.Ytnjegnlfdbbleaa
open Go Go.RowKit Go.Shelf

/-- Where a point is: 1 inside, 0 on the border, -1 outside. -/
def placeV (n : Nat) (p : Nat → Int × Int) (s : Int × Int) (k : Nat) : Int := if sumI (fun i => cE s (p i) (p ((i + 1) % n))) k % 2 = 0 then -1 else 1
def placeI (n : Nat) (p : Nat → Int × Int) (s : Int × Int) : Int := if ∃ i, i < n ∧ OnP (p i) (p ((i + 1) % n)) s then 0 else placeV n p s n
theorem cE_or (q a b : Int × Int) : cE q a b = 0 ∨ cE q a b = 1 ∨ cE q a b = -1 := by unfold cE; split <;> split <;> omega
theorem placeV_succ (n : Nat) (p : Nat → Int × Int) (s : Int × Int) (k : Nat) : placeV n p s (k + 1) = if cE s (p k) (p ((k + 1) % n)) = 0 then placeV n p s k else - placeV n p s k := by
  unfold placeV
  rw [sumI]
  have := cE_or s (p k) (p ((k + 1) % n))
  generalize cE s (p k) (p ((k + 1) % n)) = C at *
  generalize sumI (fun i => cE s (p i) (p ((i + 1) % n))) k = S at *
  split <;> split <;> split <;> omega
theorem placeV_or (n : Nat) (p : Nat → Int × Int) (s : Int × Int) (k : Nat) : placeV n p s k = 1 ∨ placeV n p s k = -1 := by unfold placeV; split <;> omega
/-- The side of which the lower end comes first crosses the way to the right. -/
theorem cE_lower {s a b : Int × Int} (h : a.2 ≤ b.2) : cE s a b ≠ 0 ↔ (a.2 ≤ s.2 ∧ s.2 < b.2 ∧ 0 < crossI a b s) := by
  unfold cE
  rw [if_neg (show ¬ (b.2 ≤ s.2 ∧ s.2 < a.2 ∧ crossI a b s < 0) by omega)]
  split <;> omega
theorem cE_upper {s a b : Int × Int} (h : b.2 < a.2) : cE s a b ≠ 0 ↔ (b.2 ≤ s.2 ∧ s.2 < a.2 ∧ 0 < crossI b a s) := by
  have e : cE s a b = - cE s b a := by rw [cE_swap]
  have := cE_lower (s := s) (a := b) (b := a) (by omega)
  rw [← this]
  omega
/-- Block B is the point q. -/
def BoxT (W : World) (B : Nat) (q : Int × Int) : Prop := W.heap[B]? = some (.cells #[.int .i64 q.1, .int .i64 q.2] 32 (0, 0))
theorem BoxT.lt {W : World} {B : Nat} {q : Int × Int} (h : BoxT W B q) : B < W.heap.size := (Array.getElem?_eq_some_iff.1 h).1
theorem BoxT.ext {W W' : World} {B : Nat} {q : Int × Int} (h : BoxT W B q) (hb : Below W.heap.size W W') : BoxT W' B q := (hb.block _ h.lt).trans h
theorem BoxT.c0 {W : World} {B : Nat} {q : Int × Int} (h : BoxT W B q) : W.cell? ⟨B, 0, none⟩ = some (.int .i64 q.1) := by unfold BoxT at h; simp [World.cell?, h]
theorem BoxT.c1 {W : World} {B : Nat} {q : Int × Int} (h : BoxT W B q) : W.cell? ⟨B, 1, none⟩ = some (.int .i64 q.2) := by unfold BoxT at h; simp [World.cell?, h]
theorem BoxT.fr {W : World} {B : Nat} {q : Int × Int} (h : BoxT W B q) (i : Nat) : W.frozen? ⟨B, i, none⟩ = false := by unfold BoxT at h; simp [World.frozen?, h]
theorem BoxT.other {W : World} {B B' i : Nat} {q : Int × Int} (h : BoxT W B q) (hne : B ≠ B') (u : Value) : BoxT (W.setCell ⟨B', i, none⟩ u) B q := (Below.heap_setCell W ⟨B', i, none⟩ u B hne).trans h
theorem BoxT.set {W : World} {B : Nat} {q : Int × Int} (h : BoxT W B q) (x y : Int) : BoxT ((W.setCell ⟨B, 0, none⟩ (.int .i64 x)).setCell ⟨B, 1, none⟩ (.int .i64 y)) B (x, y) := by
  unfold BoxT at *
  simp [World.setCell, Array.getElem?_modify, h]
theorem BoxT.new (W : World) (x y : Int) : BoxT (W.alloc (.cells #[.int .i64 x, .int .i64 y] 32)) W.heap.size (x, y) := heap_alloc_new W _
theorem BoxT.alloc {W : World} {B : Nat} {q : Int × Int} (h : BoxT W B q) (o : Obj) : BoxT (W.alloc o) B q := h.ext (b1 W o)
theorem BoxT.drew {W : World} {B : Nat} {q : Int × Int} (h : BoxT W B q) : BoxT W.drew B q := h

set_option maxRecDepth 100000 in
set_option maxHeartbeats 8000000 in
theorem place_any (b off n c : Nat) (p : Nat → Int × Int) (s0 s1 : Int) (w : World) (h1 : 1 ≤ n) (h10 : n ≤ 10) (hs : ∀ i, i < n → Sm 1048576 (p i)) (hS : Sm 1048576 (s0, s1))
    (hc : ∀ i, i < n → w.cell? ⟨b, off + i * 2, none⟩ = some (.int .i64 (p i).1) ∧ w.cell? ⟨b, off + i * 2 + 1, none⟩ = some (.int .i64 (p i).2)) :
    Calls Try.prog 44 #[.slice (some ⟨b, off, none⟩) n c, .agg #[.int .i64 s0, .int .i64 s1]] w (Ret (.int .i64 (placeI n p (s0, s1))) w) := by
  replace hc := Lib.hid hc
  replace hs := Lib.hid hs
  go_enter Try.func44, Try.ntmps44
  go_wp2
  have T0 := BoxT.new w s0 s1
  have B0 : Below w.heap.size w (w.alloc (.cells #[.int .i64 s0, .int .i64 s1] 32)) := b1 _ _
  generalize w.alloc (.cells #[.int .i64 s0, .int .i64 s1] 32) = W0 at *
  go_loopw [5, 6] (fun v i wr => ∃ k : Nat, k ≤ n ∧ v = .int .i64 (placeV n p (s0, s1) k) ∧ i = .int .i64 k ∧ (∀ j, j < k → ¬ OnP (p j) (p ((j + 1) % n)) (s0, s1)) ∧ BoxT wr w.heap.size (s0, s1) ∧ Below w.heap.size w wr) (fun _ i _ => n - (intOf i).toNat)
  case atStart => exact ⟨0, by omega, rfl, rfl, fun j hj => absurd hj (by omega), T0, B0⟩
  case round =>
    clear T0 B0
    obtain ⟨k, hk, rfl, rfl, hno, T0, B0⟩ := hrel
    replace hno := Lib.hid hno
    have hV := placeV_or n p (s0, s1) k
    by_cases hlt : k < n
    · have hi0 : (0 : Int) ≤ (k : Int) := by omega
      have hi1 : (k : Int) < (n : Int) := by omega
      have hq : (k + 1) % n < n := Nat.mod_lt _ (by omega)
      obtain ⟨e0, e1⟩ := hc.out k hlt
      obtain ⟨f0, f1⟩ := hc.out _ hq
      replace e0 := cellB B0 e0
      replace e1 := cellB B0 e1
      replace f0 := cellB B0 f0
      replace f1 := cellB B0 f1
      obtain ⟨m0, m1, m2⟩ := mod_at1 k n (by omega)
      have hb : b < wr.heap.size := block_lt_of_cell e0
      have hb1 : b < wr.heap.size + 1 := by omega
      have S1 : Sm 1048576 ((p k).1, (p k).2) := hs.out k hlt
      have S2 : Sm 1048576 ((p ((k + 1) % n)).1, (p ((k + 1) % n)).2) := hs.out _ hq
      have hnew := Lib.hid (placeV_succ n p (s0, s1) k)
      generalize placeV n p (s0, s1) k = V at *
      have t0 := T0.c0
      have t1 := T0.c1
      have hw0 : w.heap.size < wr.heap.size := T0.lt
      have hw1 : w.heap.size < wr.heap.size + 1 := by omega
      have hw2 : w.heap.size ≠ wr.heap.size := by omega
      have hw3 : w.heap.size ≠ wr.heap.size + 1 := by omega
      have hw4 : wr.heap.size < wr.heap.size + 1 := by omega
      go_wp2
      go_region
      all_goals
        go_wp2_with fail
        first
        | (refine calls_at (F := fun W => BoxT W wr.heap.size (p k) ∧ BoxT W (wr.heap.size + 1) (p ((k + 1) % n)) ∧ BoxT W w.heap.size (s0, s1) ∧ Below w.heap.size w W) ⟨(BoxT.new wr (p k).1 (p k).2).alloc _, (by have := BoxT.new (wr.alloc (.cells #[.int .i64 (p k).1, .int .i64 (p k).2] 32)) (p ((k + 1) % n)).1 (p ((k + 1) % n)).2; rwa [World.size_alloc] at this), (T0.alloc _).alloc _, nextB B0 (b2 _ _ _).drew⟩ ?_
           rintro W ⟨T7, T8, T3, C0⟩
           clear T0 B0 e0 e1 f0 f1 t0 t1 hb hb1
           generalize wr.heap.size + 1 = B8 at *
           generalize wr.heap.size = B7 at *)
        | (refine calls_at (F := fun W => BoxT W (wr.heap.size + 1) (p k) ∧ BoxT W wr.heap.size (p ((k + 1) % n)) ∧ BoxT W w.heap.size (s0, s1) ∧ Below w.heap.size w W) ⟨(by have := BoxT.new (wr.alloc (.cells #[.int .i64 (p ((k + 1) % n)).1, .int .i64 (p ((k + 1) % n)).2] 32)) (p k).1 (p k).2; rwa [World.size_alloc] at this), (BoxT.new wr (p ((k + 1) % n)).1 (p ((k + 1) % n)).2).alloc _, (T0.alloc _).alloc _, nextB B0 (b2 _ _ _).drew⟩ ?_
           rintro W ⟨T7, T8, T3, C0⟩
           clear T0 B0 e0 e1 f0 f1 t0 t1 hb hb1
           generalize wr.heap.size + 1 = B7 at *
           generalize wr.heap.size = B8 at *)
        refine (on_any _ _ _ _ _ _ W (by assumption) (by assumption) (by assumption)).mono ?_
        rintro e w1 ⟨rfl, hb1⟩
        dsimp only
        replace T7 := T7.ext hb1
        replace T8 := T8.ext hb1
        replace T3 := T3.ext hb1
        replace C0 := nextB C0 hb1
        have n78 : B7 ≠ B8 := by omega
        have n87 : B8 ≠ B7 := by omega
        have n37 : w.heap.size ≠ B7 := by omega
        have n38 : w.heap.size ≠ B8 := by omega
        have l7 : w.heap.size < B7 := by omega
        have l8 : w.heap.size < B8 := by omega
        have k7 := T7.lt
        have k8 := T8.lt
        have k3 := T3.lt
        clear hb1 hw0 hw1 hw2 hw3 hw4
        cases g : decide (OnP ((p k).1, (p k).2) ((p ((k + 1) % n)).1, (p ((k + 1) % n)).2) (s0, s1))
        case true =>
          have hz : Hid (placeI n p (s0, s1) = 0) := Lib.hid (if_pos ⟨k, hlt, of_decide_eq_true g⟩)
          go_wp2
          go_ret
          refine Ret.mk ?_ C0
          rw [hz.out]
          rfl
        case false =>
          have hno' := Lib.hid (of_decide_eq_false g)
          have c70 := T7.c0
          have c71 := T7.c1
          have c80 := T8.c0
          have c81 := T8.c1
          have c30 := T3.c0
          have c31 := T3.c1
          by_cases hgt : (p ((k + 1) % n)).2 < (p k).2
          · have f7 := T7.fr
            have f8 := T8.fr
            have ways : (¬ (p ((k + 1) % n)).2 ≤ s1 ∧ placeV n p (s0, s1) (k + 1) = V) ∨ ((p ((k + 1) % n)).2 ≤ s1 ∧ ¬ s1 < (p k).2 ∧ placeV n p (s0, s1) (k + 1) = V) ∨ ((p ((k + 1) % n)).2 ≤ s1 ∧ s1 < (p k).2 ∧ ¬ 0 < crossI (p ((k + 1) % n)) (p k) (s0, s1) ∧ placeV n p (s0, s1) (k + 1) = V) ∨ ((p ((k + 1) % n)).2 ≤ s1 ∧ s1 < (p k).2 ∧ 0 < crossI (p ((k + 1) % n)) (p k) (s0, s1) ∧ placeV n p (s0, s1) (k + 1) = -V) := by
              have hl := cE_upper (s := (s0, s1)) hgt
              have hl' : cE (s0, s1) (p k) (p ((k + 1) % n)) ≠ 0 ↔ (p ((k + 1) % n)).2 ≤ s1 ∧ s1 < (p k).2 ∧ 0 < crossI (p ((k + 1) % n)) (p k) (s0, s1) := hl
              have hw := hnew.out
              by_cases q0 : cE (s0, s1) (p k) (p ((k + 1) % n)) = 0
              · rw [if_pos q0] at hw
                have : ¬ ((p ((k + 1) % n)).2 ≤ s1 ∧ s1 < (p k).2 ∧ 0 < crossI (p ((k + 1) % n)) (p k) (s0, s1)) := fun h => hl'.2 h q0
                rw [hw]
                omega
              · rw [if_neg q0] at hw
                have := hl'.1 q0
                rw [hw]
                omega
            rcases ways with ⟨g1, hv⟩ | ⟨g1, g2, hv⟩ | ⟨g1, g2, g3, hv⟩ | ⟨g1, g2, g3, hv⟩
            · replace hv := Lib.hid hv
              go_wp2
              go_roundw
              case rel => exact ⟨k + 1, by omega, by rw [hv.out], by go_num, fun j hj => (by
                by_cases hjk : j = k
                · subst hjk; exact hno'.out
                · exact hno.out j (by omega)), BoxT.alloc (BoxT.other (BoxT.other (BoxT.other (BoxT.other T3 n37 _) n37 _) n38 _) n38 _) _, Below.alloc (Below.setCell (Below.setCell (Below.setCell (Below.setCell C0 (p := ⟨B7, 0, none⟩) (Nat.le_of_lt l7) _) (p := ⟨B7, 1, none⟩) (Nat.le_of_lt l7) _) (p := ⟨B8, 0, none⟩) (Nat.le_of_lt l8) _) (p := ⟨B8, 1, none⟩) (Nat.le_of_lt l8) _) (by simp; omega) _⟩
              case measure => simp [intOf]; omega
            · replace hv := Lib.hid hv
              go_wp2
              go_roundw
              case rel => exact ⟨k + 1, by omega, by rw [hv.out], by go_num, fun j hj => (by
                by_cases hjk : j = k
                · subst hjk; exact hno'.out
                · exact hno.out j (by omega)), BoxT.alloc (BoxT.other (BoxT.other (BoxT.other (BoxT.other T3 n37 _) n37 _) n38 _) n38 _) _, Below.alloc (Below.setCell (Below.setCell (Below.setCell (Below.setCell C0 (p := ⟨B7, 0, none⟩) (Nat.le_of_lt l7) _) (p := ⟨B7, 1, none⟩) (Nat.le_of_lt l7) _) (p := ⟨B8, 0, none⟩) (Nat.le_of_lt l8) _) (p := ⟨B8, 1, none⟩) (Nat.le_of_lt l8) _) (by simp; omega) _⟩
              case measure => simp [intOf]; omega
            · replace hv := Lib.hid hv
              have HX := fun W => cross_any (p ((k + 1) % n)).1 (p ((k + 1) % n)).2 (p k).1 (p k).2 s0 s1 W S2 S1 hS
              replace g3 : ¬ 0 < crossI ((p ((k + 1) % n)).1, (p ((k + 1) % n)).2) ((p k).1, (p k).2) (s0, s1) := g3
              generalize crossI ((p ((k + 1) % n)).1, (p ((k + 1) % n)).2) ((p k).1, (p k).2) (s0, s1) = X at *
              go_wp2_with fail
              refine calls_at (F := fun W => BoxT W w.heap.size (s0, s1) ∧ Below w.heap.size w W) ⟨BoxT.alloc (BoxT.other (BoxT.other (BoxT.other (BoxT.other T3 n37 _) n37 _) n38 _) n38 _) _, Below.alloc (Below.setCell (Below.setCell (Below.setCell (Below.setCell C0 (p := ⟨B7, 0, none⟩) (Nat.le_of_lt l7) _) (p := ⟨B7, 1, none⟩) (Nat.le_of_lt l7) _) (p := ⟨B8, 0, none⟩) (Nat.le_of_lt l8) _) (p := ⟨B8, 1, none⟩) (Nat.le_of_lt l8) _) (by simp; omega) _⟩ ?_
              rintro W' ⟨T3', C0'⟩
              refine (HX _).mono ?_
              rintro e w2 ⟨rfl, hb2⟩
              dsimp only
              replace T3' := T3'.ext hb2
              replace C0' := nextB C0' hb2
              clear hb2 HX T3 T7 T8 C0
              go_wp2
              go_roundw
              case rel => exact ⟨k + 1, by omega, by rw [hv.out], by go_num, fun j hj => (by
                by_cases hjk : j = k
                · subst hjk; exact hno'.out
                · exact hno.out j (by omega)), T3', C0'⟩
              case measure => simp [intOf]; omega
            · replace hv := Lib.hid hv
              have HX := fun W => cross_any (p ((k + 1) % n)).1 (p ((k + 1) % n)).2 (p k).1 (p k).2 s0 s1 W S2 S1 hS
              replace g3 : 0 < crossI ((p ((k + 1) % n)).1, (p ((k + 1) % n)).2) ((p k).1, (p k).2) (s0, s1) := g3
              generalize crossI ((p ((k + 1) % n)).1, (p ((k + 1) % n)).2) ((p k).1, (p k).2) (s0, s1) = X at *
              go_wp2_with fail
              refine calls_at (F := fun W => BoxT W w.heap.size (s0, s1) ∧ Below w.heap.size w W) ⟨BoxT.alloc (BoxT.other (BoxT.other (BoxT.other (BoxT.other T3 n37 _) n37 _) n38 _) n38 _) _, Below.alloc (Below.setCell (Below.setCell (Below.setCell (Below.setCell C0 (p := ⟨B7, 0, none⟩) (Nat.le_of_lt l7) _) (p := ⟨B7, 1, none⟩) (Nat.le_of_lt l7) _) (p := ⟨B8, 0, none⟩) (Nat.le_of_lt l8) _) (p := ⟨B8, 1, none⟩) (Nat.le_of_lt l8) _) (by simp; omega) _⟩ ?_
              rintro W' ⟨T3', C0'⟩
              refine (HX _).mono ?_
              rintro e w2 ⟨rfl, hb2⟩
              dsimp only
              replace T3' := T3'.ext hb2
              replace C0' := nextB C0' hb2
              clear hb2 HX T3 T7 T8 C0
              go_wp2
              go_roundw
              case rel => exact ⟨k + 1, by omega, by rw [hv.out], by go_num, fun j hj => (by
                by_cases hjk : j = k
                · subst hjk; exact hno'.out
                · exact hno.out j (by omega)), T3', C0'⟩
              case measure => simp [intOf]; omega
          · have ways : (¬ (p k).2 ≤ s1 ∧ placeV n p (s0, s1) (k + 1) = V) ∨ ((p k).2 ≤ s1 ∧ ¬ s1 < (p ((k + 1) % n)).2 ∧ placeV n p (s0, s1) (k + 1) = V) ∨ ((p k).2 ≤ s1 ∧ s1 < (p ((k + 1) % n)).2 ∧ ¬ 0 < crossI (p k) (p ((k + 1) % n)) (s0, s1) ∧ placeV n p (s0, s1) (k + 1) = V) ∨ ((p k).2 ≤ s1 ∧ s1 < (p ((k + 1) % n)).2 ∧ 0 < crossI (p k) (p ((k + 1) % n)) (s0, s1) ∧ placeV n p (s0, s1) (k + 1) = -V) := by
              have hl := cE_lower (s := (s0, s1)) (a := p k) (b := p ((k + 1) % n)) (by omega)
              have hl' : cE (s0, s1) (p k) (p ((k + 1) % n)) ≠ 0 ↔ (p k).2 ≤ s1 ∧ s1 < (p ((k + 1) % n)).2 ∧ 0 < crossI (p k) (p ((k + 1) % n)) (s0, s1) := hl
              have hw := hnew.out
              by_cases q0 : cE (s0, s1) (p k) (p ((k + 1) % n)) = 0
              · rw [if_pos q0] at hw
                have : ¬ ((p k).2 ≤ s1 ∧ s1 < (p ((k + 1) % n)).2 ∧ 0 < crossI (p k) (p ((k + 1) % n)) (s0, s1)) := fun h => hl'.2 h q0
                rw [hw]
                omega
              · rw [if_neg q0] at hw
                have := hl'.1 q0
                rw [hw]
                omega
            rcases ways with ⟨g1, hv⟩ | ⟨g1, g2, hv⟩ | ⟨g1, g2, g3, hv⟩ | ⟨g1, g2, g3, hv⟩
            · replace hv := Lib.hid hv
              go_wp2
              go_roundw
              case rel => exact ⟨k + 1, by omega, by rw [hv.out], by go_num, fun j hj => (by
                by_cases hjk : j = k
                · subst hjk; exact hno'.out
                · exact hno.out j (by omega)), T3, C0⟩
              case measure => simp [intOf]; omega
            · replace hv := Lib.hid hv
              go_wp2
              go_roundw
              case rel => exact ⟨k + 1, by omega, by rw [hv.out], by go_num, fun j hj => (by
                by_cases hjk : j = k
                · subst hjk; exact hno'.out
                · exact hno.out j (by omega)), T3, C0⟩
              case measure => simp [intOf]; omega
            · replace hv := Lib.hid hv
              have HX := fun W => cross_any (p k).1 (p k).2 (p ((k + 1) % n)).1 (p ((k + 1) % n)).2 s0 s1 W S1 S2 hS
              replace g3 : ¬ 0 < crossI ((p k).1, (p k).2) ((p ((k + 1) % n)).1, (p ((k + 1) % n)).2) (s0, s1) := g3
              generalize crossI ((p k).1, (p k).2) ((p ((k + 1) % n)).1, (p ((k + 1) % n)).2) (s0, s1) = X at *
              go_wp2_with fail
              refine calls_at (F := fun W => BoxT W w.heap.size (s0, s1) ∧ Below w.heap.size w W) ⟨T3, C0⟩ ?_
              rintro W' ⟨T3', C0'⟩
              refine (HX _).mono ?_
              rintro e w2 ⟨rfl, hb2⟩
              dsimp only
              replace T3' := T3'.ext hb2
              replace C0' := nextB C0' hb2
              clear hb2 HX T3 T7 T8 C0
              go_wp2
              go_roundw
              case rel => exact ⟨k + 1, by omega, by rw [hv.out], by go_num, fun j hj => (by
                by_cases hjk : j = k
                · subst hjk; exact hno'.out
                · exact hno.out j (by omega)), T3', C0'⟩
              case measure => simp [intOf]; omega
            · replace hv := Lib.hid hv
              have HX := fun W => cross_any (p k).1 (p k).2 (p ((k + 1) % n)).1 (p ((k + 1) % n)).2 s0 s1 W S1 S2 hS
              replace g3 : 0 < crossI ((p k).1, (p k).2) ((p ((k + 1) % n)).1, (p ((k + 1) % n)).2) (s0, s1) := g3
              generalize crossI ((p k).1, (p k).2) ((p ((k + 1) % n)).1, (p ((k + 1) % n)).2) (s0, s1) = X at *
              go_wp2_with fail
              refine calls_at (F := fun W => BoxT W w.heap.size (s0, s1) ∧ Below w.heap.size w W) ⟨T3, C0⟩ ?_
              rintro W' ⟨T3', C0'⟩
              refine (HX _).mono ?_
              rintro e w2 ⟨rfl, hb2⟩
              dsimp only
              replace T3' := T3'.ext hb2
              replace C0' := nextB C0' hb2
              clear hb2 HX T3 T7 T8 C0
              go_wp2
              go_roundw
              case rel => exact ⟨k + 1, by omega, by rw [hv.out], by go_num, fun j hj => (by
                by_cases hjk : j = k
                · subst hjk; exact hno'.out
                · exact hno.out j (by omega)), T3', C0'⟩
              case measure => simp [intOf]; omega
    · obtain rfl : k = n := by omega
      have hz : Hid (placeI k p (s0, s1) = placeV k p (s0, s1) k) := Lib.hid (if_neg (fun ⟨j, hj, hn⟩ => hno.out j hj hn))
      generalize placeV k p (s0, s1) k = V at *
      go_wp2
      go_ret
      refine Ret.mk ?_ B0
      rw [hz.out]
      rfl
end Go.Proofs.Ytnjegnlfdbbleaa
