/- Layer 1: where a point is. -/
import Derived.Test.YtnjegnlfdbbleaaX
namespace Go.Proofs.Ytnjegnlfdbbleaa
open Go Go.RowKit Go.Shelf
attribute [local go_sem] Oper.semAt_some

/-- Does the way from s to the right change sides at this side? -/
def flipB (s : Int × Int) (q : (Int × Int) × (Int × Int)) : Bool :=
  (decide (s.2 < q.1.2) != decide (s.2 < q.2.2)) && (decide (0 < crossI q.1 q.2 s) == decide (q.1.2 < q.2.2))
/-- 1 and -1 in turn. -/
def sideL {α : Type} (f : α → Bool) (l : List α) : Int := l.foldl (fun v x => if f x then -v else v) (-1)
theorem sideL_snoc {α : Type} (f : α → Bool) (l : List α) (x : α) : sideL f (l ++ [x]) = if f x then -(sideL f l) else sideL f l := by simp [sideL]
theorem sideL_map {α β : Type} (f : β → Bool) (h : α → β) (l : List α) : sideL f (l.map h) = sideL (fun x => f (h x)) l := by simp [sideL, List.foldl_map]
theorem sideL_bd {α : Type} (f : α → Bool) (l : List α) : sideL f l = 1 ∨ sideL f l = -1 := by
  suffices H : ∀ (l : List α) (v : Int), v = 1 ∨ v = -1 → l.foldl (fun v x => if f x then -v else v) v = 1 ∨ l.foldl (fun v x => if f x then -v else v) v = -1 from H l _ (.inr rfl)
  intro l
  induction l with
  | nil => intro v h; exact h
  | cons x l ih => intro v h; exact ih _ (by dsimp only; split <;> omega)
/-- 1 inside, 0 on the border, -1 outside. -/
def whereI (n : Nat) (p : Nat → Int × Int) (s : Int × Int) : Int :=
  if ∃ i, i < n ∧ OnP (p i) (p ((i + 1) % n)) s then 0 else sideL (flipB s) (sidesTo n p n)

set_option maxRecDepth 100000 in
set_option maxHeartbeats 4000000 in
theorem where_any (b off n c : Nat) (p : Nat → Int × Int) (s0 s1 : Int) (w : World) (h1 : 1 ≤ n) (h10 : n ≤ 10) (hs : ∀ i, i < n → Sm 50 (p i)) (hS : Sm 1048576 (s0, s1))
    (hc : ∀ i, i < n → w.cell? ⟨b, off + i * 2, none⟩ = some (.int .i64 (p i).1) ∧ w.cell? ⟨b, off + i * 2 + 1, none⟩ = some (.int .i64 (p i).2)) :
    Calls Try.prog 48 #[.slice (some ⟨b, off, none⟩) n c, .agg #[.int .i64 s0, .int .i64 s1]] w (Ret (.int .i64 (whereI n p (s0, s1))) w) := by
  have hb : b < w.heap.size := block_lt_of_cell (hc 0 (by omega)).1
  refine (callsIn_wide (n := 11)).1 (callsIn_of_wp_marks Try.func48 rfl trivial ?_ rfl)
  simp only [Try.ntmps48, List.size_toArray, List.length_cons, List.length_nil, Nat.reduceAdd, Nat.reduceSub, Array.replicate_succ, Array.replicate_zero, List.push_toArray, List.append_toArray, List.nil_append, List.cons_append]
  have hc := Lib.hid hc
  have hs := Lib.hid hs
  gi_wp2_with fail
  refine ⟨trivial, (callsIn_wide.2 (sides_any _ _ _ _)).mono ?_⟩
  rintro e w' ⟨rfl, rfl⟩
  simp only [World.size_alloc]
  gi_wp2_with fail
  have hW0 : Below w.heap.size w ((((w.alloc (.cells #[.int .i64 s0, .int .i64 s1] 65)).alloc (.cells #[.int .i64 0] 3)).alloc (.cells #[.int .i64 (-1)] 3)).alloc (.cells #[.slice (some ⟨b, off, none⟩) n c] 54)) := b4 _ _ _ _ _
  have bF : BoxS ((((w.alloc (.cells #[.int .i64 s0, .int .i64 s1] 65)).alloc (.cells #[.int .i64 0] 3)).alloc (.cells #[.int .i64 (-1)] 3)).alloc (.cells #[.slice (some ⟨b, off, none⟩) n c] 54)) w.heap.size (s0, s1) := by
    exact (Below.heap_alloc _ _ _ (by simp; omega)).trans ((Below.heap_alloc _ _ _ (by simp; omega)).trans ((Below.heap_alloc _ _ _ (by simp)).trans (heap_alloc_new w _)))
  have bR : Boxed ((((w.alloc (.cells #[.int .i64 s0, .int .i64 s1] 65)).alloc (.cells #[.int .i64 0] 3)).alloc (.cells #[.int .i64 (-1)] 3)).alloc (.cells #[.slice (some ⟨b, off, none⟩) n c] 54)) (w.heap.size + 1) 3 (.int .i64 0) := by
    have := (((Boxed.new (w.alloc (.cells #[.int .i64 s0, .int .i64 s1] 65)) 3 (.int .i64 0)).alloc (.cells #[.int .i64 (-1)] 3)).alloc (.cells #[.slice (some ⟨b, off, none⟩) n c] 54))
    rwa [World.size_alloc] at this
  have bL : Boxed ((((w.alloc (.cells #[.int .i64 s0, .int .i64 s1] 65)).alloc (.cells #[.int .i64 0] 3)).alloc (.cells #[.int .i64 (-1)] 3)).alloc (.cells #[.slice (some ⟨b, off, none⟩) n c] 54)) (w.heap.size + 1 + 1) 3 (.int .i64 (-1)) := by
    have := ((Boxed.new ((w.alloc (.cells #[.int .i64 s0, .int .i64 s1] 65)).alloc (.cells #[.int .i64 0] 3)) 3 (.int .i64 (-1))).alloc (.cells #[.slice (some ⟨b, off, none⟩) n c] 54))
    rwa [World.size_alloc, World.size_alloc] at this
  have bP : Boxed ((((w.alloc (.cells #[.int .i64 s0, .int .i64 s1] 65)).alloc (.cells #[.int .i64 0] 3)).alloc (.cells #[.int .i64 (-1)] 3)).alloc (.cells #[.slice (some ⟨b, off, none⟩) n c] 54)) (w.heap.size + 1 + 1 + 1) 54 (.slice (some ⟨b, off, none⟩) n c) := by
    have := Boxed.new (((w.alloc (.cells #[.int .i64 s0, .int .i64 s1] 65)).alloc (.cells #[.int .i64 0] 3)).alloc (.cells #[.int .i64 (-1)] 3)) 54 (.slice (some ⟨b, off, none⟩) n c)
    rwa [World.size_alloc, World.size_alloc, World.size_alloc] at this
  have hsz : ((((w.alloc (.cells #[.int .i64 s0, .int .i64 s1] 65)).alloc (.cells #[.int .i64 0] 3)).alloc (.cells #[.int .i64 (-1)] 3)).alloc (.cells #[.slice (some ⟨b, off, none⟩) n c] 54)).heap.size = w.heap.size + 4 := by simp
  generalize hWW : ((((w.alloc (.cells #[.int .i64 s0, .int .i64 s1] 65)).alloc (.cells #[.int .i64 0] 3)).alloc (.cells #[.int .i64 (-1)] 3)).alloc (.cells #[.slice (some ⟨b, off, none⟩) n c] 54)) = W0 at *
  clear hWW
  refine wpIn_rangeFunc_ownH rfl (by omega) (gf := 64) (lb := #[.pointer (some ⟨w.heap.size + 1 + 1 + 1, 0, none⟩)]) rfl trivial (enters_of Try.func64 (by kernel_rfl) rfl)
    (sides_stops (w.heap.size + 1 + 1 + 1) w.heap.size b off n c p W0 h1 h10 hs.out hb hW0.size bP.cell (fun i hi => ⟨cellB hW0 (hc.out i hi).1, cellB hW0 (hc.out i hi).2⟩)) KeepB.trans (keepB_b hW0.size (by omega)) (Below.refl _ _) (fun _ => rfl)
    (fun pre W => (BoxS W w.heap.size (s0, s1) ∧ Boxed W (w.heap.size + 1) 3 (.int .i64 0) ∧ Boxed W (w.heap.size + 1 + 1) 3 (.int .i64 (sideL (fun x : Side => flipB (s0, s1) x.1) pre))) ∧ (Below w.heap.size w W ∧ W0.heap.size ≤ W.heap.size) ∧ ∀ x ∈ pre, ¬ OnP x.1.1 x.1.2 (s0, s1))
    (fun j pre W => Boxed W (w.heap.size + 1) 3 (.int .i64 0) ∧ Below w.heap.size w W ∧ (j = .ret ∧ ∃ x ∈ pre, OnP x.1.1 x.1.2 (s0, s1)))
    (OwnFrom.and (OwnFrom.and (Own.from (boxS_own _ _) _) (OwnFrom.and (Own.from (boxed_own _ _ _) _) (Own.from (boxed_own _ _ _) _))) (OwnFrom.and (OwnFrom.and (ownFrom_below (Nat.le_refl _) (by omega)) (fun _ _ _ _ hs hg _ => Nat.le_trans hs hg.size)) (fun _ _ _ _ hs _ _ => hs)))
    (fun j => OwnFrom.and (Own.from (boxed_own _ _ _) _) (OwnFrom.and (ownFrom_below (Nat.le_refl _) (by omega)) (fun _ _ _ _ hs _ _ => hs)))
    ⟨⟨bF, bR, bL⟩, ⟨hW0, Nat.le_refl _⟩, fun x hx => by cases hx⟩
    (fun x a' W => ∃ B1 B2, w.heap.size + 1 + 1 < B1 ∧ w.heap.size + 1 + 1 < B2 ∧ Box2 W B1 x.1.1.1 x.1.1.2 ∧ Box2 W B2 x.1.2.1 x.1.2.2 ∧ a' = { tmps := #[.slice (some ⟨b, off, none⟩) n c, .agg #[.int .i64 s0, .int .i64 s1], undef, .pointer (some ⟨w.heap.size, 0, none⟩), .pointer (some ⟨w.heap.size + 1, 0, none⟩), .pointer (some ⟨w.heap.size + 1 + 1, 0, none⟩), .pointer (some ⟨B1, 0, none⟩), .pointer (some ⟨B2, 0, none⟩), undef, .slice (some ⟨b, off, none⟩) n c, .func (.func 64) #[] #[.pointer (some ⟨w.heap.size + 1 + 1 + 1, 0, none⟩)], .agg #[.int .i64 x.1.1.1, .int .i64 x.1.1.2], .agg #[.int .i64 x.1.2.1, .int .i64 x.1.2.2], undef, undef, undef, undef, undef, undef, undef, undef, undef, undef, undef, undef, undef, undef, undef, undef, undef, undef, undef, undef, undef, undef, undef, undef, undef, undef, undef, undef, undef, undef, undef, undef], defers := [] })
    (fun x a' _ X Y row hs hg hr => by obtain ⟨B1, B2, q1, q2, q3, q4, q5⟩ := hs; exact ⟨B1, B2, q1, q2, box2_own q3 hg (fun r e => (hr r e).2), box2_own q4 hg (fun r e => (hr r e).2), q5⟩)
    ?assign ?body ?done ?stop
  case assign =>
    rintro l pre x W K ⟨⟨bF1, bR1, bL1⟩, ⟨hB1, hz1⟩, hno⟩ hK
    have hd : Below W.heap.size W ((W.alloc (.cells #[.int .i64 x.1.1.1, .int .i64 x.1.1.2] 65)).alloc (.cells #[.int .i64 x.1.2.1, .int .i64 x.1.2.2] 65)) := b2 _ _ _
    have hd := Lib.hid hd
    have hno := Lib.hid hno
    gi_wp2
    exact hK _ _ (keepsFrom_of hd.out) (KeepB.ext hB1.size (by omega) hd.out) ⟨⟨bF1.ext hd.out, boxed_ext bR1 hd.out, boxed_ext bL1 hd.out⟩, ⟨nextB hB1 hd.out, Nat.le_trans hz1 hd.out.size⟩, hno.out⟩
      ⟨W.heap.size, W.heap.size + 1, by omega, by omega, ⟨by go_simp, by go_simp⟩, ⟨by go_simp, by go_simp⟩, rfl⟩
  case body =>
    rintro l pre x a' W hl ⟨r, hr⟩ ⟨⟨bF1, bR1, bL1⟩, ⟨hB1, hz1⟩, hno⟩ ⟨B1, B2, hl1, hl2, K1, K2, rfl⟩ hlt
    have hno := Lib.hid hno
    have hside := sideL_bd (fun x : Side => flipB (s0, s1) x.1) pre
    have S1 : Sm 1048576 (x.1.1.1, x.1.1.2) := x.2.1.mono (by omega)
    have S2 : Sm 1048576 (x.1.2.1, x.1.2.2) := x.2.2.mono (by omega)
    have f0 := bF1.c0
    have f1 := bF1.c1
    obtain ⟨k10, k11⟩ := id K1
    obtain ⟨k20, k21⟩ := id K2
    gi_wp2_with fail
    refine ⟨trivial, (CallsIn.inRound l (callsIn_wide.2 (onSide_any _ _ _ _ _ _ _ (by assumption) (by assumption) (by assumption)))).mono ?_⟩
    rintro e w2 ⟨rfl, hb2⟩
    dsimp only
    have bF2 := bF1.ext hb2
    have bR2 := boxed_ext bR1 hb2
    have bL2 := boxed_ext bL1 hb2
    replace K1 := K1.next hb2
    replace K2 := K2.next hb2
    have hB2 := nextB hB1 hb2
    have hK2 : KeepB w.heap.size (w.heap.size + 1 + 1 + 1) W w2 := KeepB.ext hB1.size (by omega) hb2
    have hF2 : KeepsFrom W0.heap.size W w2 := keepsFrom_of hb2
    have hz2 := Nat.le_trans hz1 hb2.size
    clear f0 f1 k10 k11 k20 k21 hb2
    cases g : decide (OnP (x.1.1.1, x.1.1.2) (x.1.2.1, x.1.2.2) (s0, s1))
    · have hB2 := Lib.hid hB2
      have hF2 := Lib.hid hF2
      have hK2 := Lib.hid hK2
      have hz2 := Lib.hid hz2
      have f0 := bF2.c0
      have f1 := bF2.c1
      obtain ⟨k10, k11⟩ := id K1
      obtain ⟨k20, k21⟩ := id K2
      have cL := bL2.cell
      have fL := bL2.frozen
      have hsn := sideL_snoc (fun x : Side => flipB (s0, s1) x.1) pre x
      have hsn := Lib.hid hsn
      have hno2 : Hid (∀ y ∈ pre ++ [x], ¬ OnP y.1.1 y.1.2 (s0, s1)) := Lib.hid (fun y hy => (List.mem_append.1 hy).elim (hno.out y) (fun e => by simp at e; subst e; exact of_decide_eq_false g))
      gi_wp2_with fail
      · have h : s1 < x.1.1.2 ↔ s1 < x.1.2.2 := by assumption
        have hfl : flipB (s0, s1) x.1 = false := by simp [flipB, h]
        have hfl := Lib.hid hfl
        refine ⟨trivial, ?_⟩
        gi_wp2
        exact ⟨hF2.out, hK2.out, ⟨bF2, bR2, by rw [hsn.out, hfl.out]; exact bL2⟩, ⟨hB2.out, hz2.out⟩, hno2.out⟩
      · have h : ¬ (s1 < x.1.1.2 ↔ s1 < x.1.2.2) := by assumption
        have h := Lib.hid h
        refine ⟨trivial, (CallsIn.inRound l (callsIn_wide.2 (turn_any _ _ _ _ _ _ _ (by assumption) (by assumption) (by assumption)))).mono ?_⟩
        rintro e w3 ⟨rfl, hb3⟩
        dsimp only
        have bL3 := boxed_ext bL2 hb3
        have cL3 := bL3.cell
        have fL3 := bL3.frozen
        have hb3 := Lib.hid hb3
        gi_wp2
        · rename_i hh
          have hfl : flipB (s0, s1) x.1 = true := by
            show ((decide (s1 < x.1.1.2) != decide (s1 < x.1.2.2)) && (decide (0 < crossI (x.1.1.1, x.1.1.2) (x.1.2.1, x.1.2.2) (s0, s1)) == decide (x.1.1.2 < x.1.2.2))) = true
            revert hh
            generalize decide (s1 < x.1.1.2) = A
            generalize decide (s1 < x.1.2.2) = B
            generalize decide (0 < crossI (x.1.1.1, x.1.1.2) (x.1.2.1, x.1.2.2) (s0, s1)) = C
            generalize decide (x.1.1.2 < x.1.2.2) = E
            intro hh
            cases A <;> cases B <;> cases C <;> cases E <;> simp at hh ⊢
          exact ⟨keepsFrom_set (hF2.out.trans (keepsFrom_of hb3.out)) _ _, (hK2.out.trans (KeepB.ext hB2.out.size (by have := hz2.out; omega) hb3.out)).set (by omega) (by omega) _,
            ⟨(bF2.ext hb3.out).other (by omega) _, boxed_other (boxed_ext bR2 hb3.out) (by omega) _, by rw [hsn.out, if_pos hfl]; exact bL3.set _⟩,
            ⟨(nextB hB2.out hb3.out).setCell (p := ⟨w.heap.size + 1 + 1, 0, none⟩) (by simp; try omega) _, size_set (Nat.le_trans hz2.out hb3.out.size) _ _⟩, hno2.out⟩
        · rename_i hh
          have hfl : flipB (s0, s1) x.1 = false := by
            show ((decide (s1 < x.1.1.2) != decide (s1 < x.1.2.2)) && (decide (0 < crossI (x.1.1.1, x.1.1.2) (x.1.2.1, x.1.2.2) (s0, s1)) == decide (x.1.1.2 < x.1.2.2))) = false
            revert hh
            generalize decide (s1 < x.1.1.2) = A
            generalize decide (s1 < x.1.2.2) = B
            generalize decide (0 < crossI (x.1.1.1, x.1.1.2) (x.1.2.1, x.1.2.2) (s0, s1)) = C
            generalize decide (x.1.1.2 < x.1.2.2) = E
            intro hh
            cases A <;> cases B <;> cases C <;> cases E <;> simp at hh ⊢
          exact ⟨hF2.out.trans (keepsFrom_of hb3.out), hK2.out.trans (KeepB.ext hB2.out.size (by have := hz2.out; omega) hb3.out),
            ⟨bF2.ext hb3.out, boxed_ext bR2 hb3.out, by rw [hsn.out, hfl]; exact bL3⟩, ⟨nextB hB2.out hb3.out, Nat.le_trans hz2.out hb3.out.size⟩, hno2.out⟩
    · have cR := bR2.cell
      have fR := bR2.frozen
      have hB2 := Lib.hid hB2
      have hF2 := Lib.hid hF2
      gi_wp2
      exact ⟨keepsFrom_set hF2.out _ _, bR2.set _, hB2.out.setCell (p := ⟨w.heap.size + 1, 0, none⟩) (by simp) _, rfl, x, by simp, of_decide_eq_true g⟩
  case done =>
    rintro D zs W hD hz ⟨⟨bF1, bR1, bL1⟩, ⟨hB1, hz1⟩, hno⟩ hK
    have cL := bL1.cell
    have cR := bR1.cell
    have fR := bR1.frozen
    have hside := sideL_bd (fun x : Side => flipB (s0, s1) x.1) zs
    have hz := Lib.hid hz
    have hno := Lib.hid hno
    gi_wp2
    have hK' := (KeepsOthers.setCell W ⟨w.heap.size + 1, 0, none⟩ (.int .i64 (sideL (fun x : Side => flipB (s0, s1) x.1) zs))).same D _ hK rfl
    refine ⟨by simp, .inl ⟨_, _, rfl, run_takeDeferred hK', ?_⟩⟩
    have hc5 := cell_kept (World.cell?_setCell_same' W ⟨w.heap.size + 1, 0, none⟩ (.int .i64 (sideL (fun x : Side => flipB (s0, s1) x.1) zs)) (by rw [cR]; rfl)) (grownBy_putObj' _ D (.deferred none)) (fun r e => by cases e; exact ⟨_, hK', rfl⟩)
    have hv : sideL (fun x : Side => flipB (s0, s1) x.1) zs = whereI n p (s0, s1) := by
      unfold whereI
      rw [if_neg, ← hz.out, sideL_map]
      rintro ⟨i, hi, ho⟩
      have hm : sideAt n p i ∈ zs.map (·.1) := by rw [hz.out]; simp only [sidesTo, List.mem_map, List.mem_range]; exact ⟨i, hi, rfl⟩
      obtain ⟨z, hz1, hz2⟩ := List.mem_map.1 hm
      exact hno.out z hz1 (by rw [hz2]; exact ho)
    refine ⟨.int .i64 (sideL (fun x : Side => flipB (s0, s1) x.1) zs), ?_, congrArg (fun v => Ending.returned (Value.int .i64 v)) hv, (hB1.setCell (p := ⟨w.heap.size + 1, 0, none⟩) (by simp) _).trans (belowK_b (w := w) (Nat.le_refl _) _ D _ _ (by omega) hK' rfl rfl)⟩
    simp [results, Try.f48, go_sem, hc5]
  case stop =>
    rintro D c pre W hD ⟨k, hk, hpre⟩ ⟨bR1, hB1, rfl, x, hx, hon⟩ hK
    have hpre := Lib.hid hpre
    have hon := Lib.hid hon
    gi_wp2
    refine ⟨by simp, .inl ⟨_, _, rfl, run_takeDeferred hK, ?_⟩⟩
    have hc5 := cell_kept bR1.cell (grownBy_putObj' _ D (.deferred none)) (fun r e => by cases e; exact ⟨_, hK, rfl⟩)
    have hv : 0 = whereI n p (s0, s1) := by
      unfold whereI
      have hm : x.1 ∈ sidesTo n p k := by rw [← hpre.out]; exact List.mem_map.2 ⟨x, hx, rfl⟩
      simp only [sidesTo, List.mem_map, List.mem_range] at hm
      obtain ⟨i, hi, e⟩ := hm
      have ho := hon.out
      rw [← e] at ho
      rw [if_pos ⟨i, by omega, ho⟩]
    refine ⟨.int .i64 0, ?_, congrArg (fun v => Ending.returned (Value.int .i64 v)) hv, hB1.trans (belowK_b (w := w) (Nat.le_refl _) _ D _ _ (by omega) hK rfl rfl)⟩
    simp [results, Try.f48, go_sem, hc5]
end Go.Proofs.Ytnjegnlfdbbleaa
