/- Layer 1: the opposite pen. -/
import Derived.Test.YtnjegnlfdbbleaaH
import Derived.Test.YtnjegnlfdbbleaaK
import Derived.IntWalk
namespace Go.Proofs.Ytnjegnlfdbbleaa
open Go Go.RowKit Go.Shelf
attribute [local go_sem] Oper.semAt_some

/-- The opposite point of a side. -/
def oppI (q : (Int × Int) × (Int × Int)) : Int × Int := ((q.2.2 - q.1.2).tdiv (crossO q), (q.1.1 - q.2.1).tdiv (crossO q))
abbrev NotFlat (q : (Int × Int) × (Int × Int)) : Prop := crossO q ≠ 0
/-- The cells of the opposite points of sides. -/
def oppCells (pre : List (SideP NotFlat)) : List Value := pre.flatMap fun x => [.int .i64 (oppI x.1).1, .int .i64 (oppI x.1).2]
theorem oppCells_snoc (pre : List (SideP NotFlat)) (x : SideP NotFlat) : oppCells (pre ++ [x]) = oppCells pre ++ [.int .i64 (oppI x.1).1, .int .i64 (oppI x.1).2] := by simp [oppCells]

theorem infoPt : (Try.prog.info? 32).map (fun i => (i.zero, i.size, i.bytes)) = some (some (.agg #[.int .i64 0, .int .i64 0]), 2, 16) := by kernel_rfl

theorem tdiv_bd {x d X : Int} (h1 : -X ≤ x) (h2 : x ≤ X) : -X ≤ x.tdiv d ∧ x.tdiv d ≤ X := by
  have e : (x.tdiv d).natAbs = x.natAbs / d.natAbs := Int.natAbs_tdiv x d
  have h := Nat.div_le_self x.natAbs d.natAbs
  generalize x.natAbs / d.natAbs = q at *
  omega
theorem oppCells_all {n : Nat} {p : Nat → Int × Int} {k : Nat} {zs : List (SideP NotFlat)} (h : zs.map (·.1) = sidesTo n p k) : oppCells zs = cellsOf (fun i => oppI (sideAt n p i)) k := by
  have e : oppCells zs = (zs.map (·.1)).flatMap fun q => [.int .i64 (oppI q).1, .int .i64 (oppI q).2] := by simp [oppCells, List.flatMap_map]
  rw [e, h]
  simp [sidesTo, cellsOf, List.flatMap_map]

set_option maxRecDepth 100000 in
set_option maxHeartbeats 4000000 in
theorem Opposite_yes (a : Option Addr) (n c : Nat) (p : Nat → Int × Int) (w : World) (hm : n ≤ 4611686018427387904) (h : Pts w a n p) (hn : PenP n p) (hr : RoundC n p) (hP : ∀ i, i < n → NotFlat (sideAt n p i)) :
    Calls Try.prog 27 #[.slice a n c] w fun e w' => Below w.heap.size w w' ∧ ∃ g cap, e = .returned (.tuple #[.slice (some ⟨g, 0, none⟩) n cap, .int .i64 0]) ∧ Pts w' (some ⟨g, 0, none⟩) n (fun i => oppI (sideAt n p i)) := by
  have H := Lib.hid (penOf_any a n c p w hm h)
  have hn' := Lib.hid hn
  have hr := Lib.hid hr
  have hP := Lib.hid hP
  clear h hn
  obtain ⟨i0, hi, hz0, hz1, hz2⟩ := info_parts infoPt
  have G0 := Lib.hid hi
  have G1 := Lib.hid hz0
  have G2 := Lib.hid hz1
  have G3 := Lib.hid hz2
  clear hi hz0 hz1 hz2
  refine (callsIn_wide (n := 11)).1 (callsIn_of_wp_marks Try.func27 rfl trivial ?_ rfl)
  simp only [Try.ntmps27, List.size_toArray, List.length_cons, List.length_nil, Nat.reduceAdd, Nat.reduceSub, Array.replicate_succ, Array.replicate_zero, List.push_toArray, List.append_toArray, List.nil_append, List.cons_append]
  gi_wp2_with fail
  refine ⟨trivial, (callsIn_wide.2 H.out).mono ?_⟩
  rintro e w1 ⟨hb1, (⟨hp, g, c', rfl, hc'⟩ | ⟨hp, a', m', c', rfl⟩)⟩
  · have h3 : 3 ≤ n := hp.1
    have h10 : n ≤ 10 := hp.2.1
    have hs := Lib.hid hp.sm
    have hc := Lib.hid hc'
    have HR := roundCentre_any g 0 n c' p w1 (by omega) h10 hs.out hc'
    rw [decide_eq_true hr.out] at HR
    replace HR := Lib.hid HR
    clear hp hc' H
    dsimp only
    gi_wp2_with fail
    refine ⟨trivial, (callsIn_wide.2 HR.out).mono ?_⟩
    rintro e w2 ⟨rfl, hb2⟩
    dsimp only
    have hc2 := Lib.hid (pts_next hb2 hc.out)
    have hB := nextB hb1 hb2
    clear HR hc hb1 hb2
    gi_wp2_with fail
    refine ⟨trivial, (callsIn_wide.2 (sides_any _ _ _ _)).mono ?_⟩
    rintro e w' ⟨rfl, rfl⟩
    simp only [World.size_alloc]
    gi_wp2_with fail
    have bO := Boxed.new w2 22 (.slice none 0 0)
    have bP := Boxed.new (w2.alloc (.cells #[.slice none 0 0] 22)) 54 (.slice (some ⟨g, 0, none⟩) n c')
    rw [World.size_alloc] at bP
    replace bO := bO.alloc (.cells #[.slice (some ⟨g, 0, none⟩) n c'] 54)
    have hB0 : Below w2.heap.size w2 ((w2.alloc (.cells #[.slice none 0 0] 22)).alloc (.cells #[.slice (some ⟨g, 0, none⟩) n c'] 54)) := b2 _ _ _
    have hsz : ((w2.alloc (.cells #[.slice none 0 0] 22)).alloc (.cells #[.slice (some ⟨g, 0, none⟩) n c'] 54)).heap.size = w2.heap.size + 2 := by simp
    obtain ⟨W0, hW0⟩ : ∃ W0, (w2.alloc (.cells #[.slice none 0 0] 22)).alloc (.cells #[.slice (some ⟨g, 0, none⟩) n c'] 54) = W0 := ⟨_, rfl⟩
    rw [hW0] at bO bP hB0 hsz ⊢
    clear hW0
    have hgl : g < w2.heap.size := block_lt_of_cell (hc2.out 0 (by omega)).1
    refine wpIn_rangeFunc_ownH rfl (by omega) (gf := 64) (lb := #[.pointer (some ⟨w2.heap.size + 1, 0, none⟩)]) rfl trivial (enters_of Try.func64 (by kernel_rfl) rfl)
      (sidesP_stops (P := NotFlat) (w2.heap.size + 1) w2.heap.size g 0 n c' p W0 (by omega) h10 hs.out hP.out hgl hB0.size bP.cell (fun i hi => ⟨cellB hB0 (hc2.out i hi).1, cellB hB0 (hc2.out i hi).2⟩)) KeepB.trans (keepB_b hB0.size (by omega)) (Below.refl _ _) (fun _ => rfl)
      (fun pre W => ((∃ v, Boxed W w2.heap.size 22 v ∧ W.ownsRow w2.heap.size 32 2 v pre.length (oppCells pre) ∧ True) ∧ Boxed W (w2.heap.size + 1) 54 (.slice (some ⟨g, 0, none⟩) n c')) ∧ Below w2.heap.size w2 W ∧ W0.heap.size ≤ W.heap.size)
      (fun _ _ _ => False)
      (OwnFrom.and (OwnFrom.and (Own.from (holdsRow_own w2.heap.size w2.heap.size 22 32 2 (fun pre => pre.length) (fun pre => oppCells pre) (fun _ _ => True)) _) (Own.from (boxed_own _ _ _) _)) (OwnFrom.and (ownFrom_below (Nat.le_refl _) (by omega)) (fun _ _ _ _ hs hg _ => Nat.le_trans hs hg.size)))
      (fun _ _ _ _ _ hs _ _ => hs)
      ⟨⟨⟨_, bO, World.ownsRow_nil _ _ _ _, trivial⟩, bP⟩, hB0, Nat.le_refl _⟩
      (fun x a' W => ∃ B1 B2, w2.heap.size + 1 < B1 ∧ w2.heap.size + 1 < B2 ∧ Box2 W B1 x.1.1.1 x.1.1.2 ∧ Box2 W B2 x.1.2.1 x.1.2.2 ∧ a' = { tmps := #[.slice a n c, undef, .slice none 0 0, .int .i64 0, .slice (some ⟨g, 0, none⟩) n c', .bool true, .pointer (some ⟨w2.heap.size, 0, none⟩), .pointer (some ⟨B1, 0, none⟩), .pointer (some ⟨B2, 0, none⟩), undef, .tuple #[.slice (some ⟨g, 0, none⟩) n c', .bool true], .slice a n c, .tuple #[.slice (some ⟨g, 0, none⟩) n c', .bool true], .slice (some ⟨g, 0, none⟩) n c', .bool true, .bool true, .bool false, .slice (some ⟨g, 0, none⟩) n c', .bool true, .bool false, .slice (some ⟨g, 0, none⟩) n c', .func (.func 64) #[] #[.pointer (some ⟨w2.heap.size + 1, 0, none⟩)], .agg #[.int .i64 x.1.1.1, .int .i64 x.1.1.2], .agg #[.int .i64 x.1.2.1, .int .i64 x.1.2.2], undef, undef, undef, undef, undef, undef, undef, undef, undef, undef, undef, undef, undef, undef, undef, undef, undef, undef, undef, undef, undef, undef, undef], defers := [] })
      (fun x a' _ X Y row hs hg hr => by obtain ⟨B1, B2, q1, q2, q3, q4, q5⟩ := hs; exact ⟨B1, B2, q1, q2, box2_own q3 hg (fun r e => (hr r e).2), box2_own q4 hg (fun r e => (hr r e).2), q5⟩)
      ?assign ?body ?done ?stop
    case assign =>
      rintro l pre x W K ⟨⟨⟨v, hv, hrow, ht⟩, bP1⟩, hB1, hz1⟩ hK
      have hd : Below W.heap.size W ((W.alloc (.cells #[.int .i64 x.1.1.1, .int .i64 x.1.1.2] 65)).alloc (.cells #[.int .i64 x.1.2.1, .int .i64 x.1.2.2] 65)) := b2 _ _ _
      have hd := Lib.hid hd
      gi_wp2
      exact hK _ _ (keepsFrom_of hd.out) (KeepB.ext hB1.size (by omega) hd.out) ⟨⟨⟨v, boxed_ext hv hd.out, owns_next hrow hd.out, trivial⟩, boxed_ext bP1 hd.out⟩, nextB hB1 hd.out, Nat.le_trans hz1 hd.out.size⟩
        ⟨W.heap.size, W.heap.size + 1, by omega, by omega, ⟨by go_simp, by go_simp⟩, ⟨by go_simp, by go_simp⟩, rfl⟩
    case body =>
      rintro l pre x a' W hl ⟨r, hr0⟩ ⟨⟨⟨v, hv, hrow, ht⟩, bP1⟩, hB1, hz1⟩ ⟨B1, B2, hl1, hl2, K1, K2, rfl⟩ hlt
      have S0 : Sm 1048576 ((0 : Int), (0 : Int)) := by unfold Sm; simp
      have S1 : Sm 1048576 (x.1.1.1, x.1.1.2) := x.2.1.mono (by omega)
      have S2 : Sm 1048576 (x.1.2.1, x.1.2.2) := x.2.2.1.mono (by omega)
      obtain ⟨k10, k11⟩ := id K1
      obtain ⟨k20, k21⟩ := id K2
      gi_wp2_with fail
      refine ⟨trivial, (CallsIn.inRound l (callsIn_wide.2 (turn_any _ _ _ _ _ _ _ (by assumption) (by assumption) (by assumption)))).mono ?_⟩
      rintro e w3 ⟨rfl, hb3⟩
      dsimp only
      have hv3 := boxed_ext hv hb3
      have hrow3 := owns_next hrow hb3
      have bP3 := boxed_ext bP1 hb3
      replace K1 := K1.next hb3
      replace K2 := K2.next hb3
      have hB3 := nextB hB1 hb3
      have hF3 : KeepsFrom W0.heap.size W w3 := keepsFrom_of hb3
      have hk3 : KeepB w2.heap.size (w2.heap.size + 1) W w3 := KeepB.ext hB1.size (by omega) hb3
      have hz3 := Nat.le_trans hz1 hb3.size
      clear k10 k11 k20 k21
      have x10 := cellX K1.1
      have x11 := cellX K1.2
      have x20 := cellX K2.1
      have x21 := cellX K2.2
      have xO := cellX hv3.cell
      have hopp : Hid (oppI x.1 = ((x.1.2.2 - x.1.1.2).tdiv (crossI (0, 0) (x.1.1.1, x.1.1.2) (x.1.2.1, x.1.2.2)), (x.1.1.1 - x.1.2.1).tdiv (crossI (0, 0) (x.1.1.1, x.1.1.2) (x.1.2.1, x.1.2.2)))) := Lib.hid rfl
      have hd0 : crossI (0, 0) (x.1.1.1, x.1.1.2) (x.1.2.1, x.1.2.2) ≠ 0 := x.2.2.2
      generalize crossI (0, 0) (x.1.1.1, x.1.1.2) (x.1.2.1, x.1.2.2) = d at *
      have S1 := x.2.1
      have S2 := x.2.2.1
      unfold Sm at S1 S2
      obtain ⟨t1, t2⟩ := tdiv_bd (x := x.1.2.2 - x.1.1.2) (d := d) (X := 100) (by omega) (by omega)
      obtain ⟨t3, t4⟩ := tdiv_bd (x := x.1.1.1 - x.1.2.1) (d := d) (X := 100) (by omega) (by omega)
      gi_wp2
      refine wpIn_round_takes l 16 (fun W' => ∃ y : Ext w3, W' = y.world) _ (by kernel_rfl) rfl (by kernel_rfl) (by kernel_rfl) (by kernel_rfl) ⟨⟨_, (Below.refl _ w3).drew⟩, rfl⟩ (fun _ _ h => h) ?_
      dsimp only [List.take, List.drop]
      refine ⟨v, .inl ⟨by rfl, by rintro _ ⟨y, rfl⟩; go_simp; try exact IntWalk.i64_in _ (by omega)⟩, ?_⟩
      simp only [Act.put, List.setIfInBounds_toArray, List.set_cons_zero, List.set_cons_succ]
      refine ⟨.pointer (some ⟨B2, 1, none⟩), .inl ⟨by rfl, by rintro _ ⟨y, rfl⟩; go_simp; try exact IntWalk.i64_in _ (by omega)⟩, ?_⟩
      simp only [Act.put, List.setIfInBounds_toArray, List.set_cons_zero, List.set_cons_succ]
      refine ⟨.int .i64 x.1.2.2, .inl ⟨by rfl, by rintro _ ⟨y, rfl⟩; go_simp; try exact IntWalk.i64_in _ (by omega)⟩, ?_⟩
      simp only [Act.put, List.setIfInBounds_toArray, List.set_cons_zero, List.set_cons_succ]
      refine ⟨.pointer (some ⟨B1, 1, none⟩), .inl ⟨by rfl, by rintro _ ⟨y, rfl⟩; go_simp; try exact IntWalk.i64_in _ (by omega)⟩, ?_⟩
      simp only [Act.put, List.setIfInBounds_toArray, List.set_cons_zero, List.set_cons_succ]
      refine ⟨.int .i64 x.1.1.2, .inl ⟨by rfl, by rintro _ ⟨y, rfl⟩; go_simp; try exact IntWalk.i64_in _ (by omega)⟩, ?_⟩
      simp only [Act.put, List.setIfInBounds_toArray, List.set_cons_zero, List.set_cons_succ]
      refine ⟨.int .i64 (x.1.2.2 - x.1.1.2), .inl ⟨by rfl, by rintro _ ⟨y, rfl⟩; go_simp; try exact IntWalk.i64_in _ (by omega)⟩, ?_⟩
      simp only [Act.put, List.setIfInBounds_toArray, List.set_cons_zero, List.set_cons_succ]
      refine ⟨.int .i64 d, .inl ⟨by rfl, by rintro _ ⟨y, rfl⟩; go_simp; try exact IntWalk.i64_in _ (by omega)⟩, ?_⟩
      simp only [Act.put, List.setIfInBounds_toArray, List.set_cons_zero, List.set_cons_succ]
      refine ⟨.int .i64 ((x.1.2.2 - x.1.1.2).tdiv d), .inl ⟨by rfl, by rintro _ ⟨y, rfl⟩; go_simp; try exact IntWalk.i64_in _ (by omega)⟩, ?_⟩
      simp only [Act.put, List.setIfInBounds_toArray, List.set_cons_zero, List.set_cons_succ]
      refine ⟨.pointer (some ⟨B1, 0, none⟩), .inl ⟨by rfl, by rintro _ ⟨y, rfl⟩; go_simp; try exact IntWalk.i64_in _ (by omega)⟩, ?_⟩
      simp only [Act.put, List.setIfInBounds_toArray, List.set_cons_zero, List.set_cons_succ]
      refine ⟨.int .i64 x.1.1.1, .inl ⟨by rfl, by rintro _ ⟨y, rfl⟩; go_simp; try exact IntWalk.i64_in _ (by omega)⟩, ?_⟩
      simp only [Act.put, List.setIfInBounds_toArray, List.set_cons_zero, List.set_cons_succ]
      refine ⟨.pointer (some ⟨B2, 0, none⟩), .inl ⟨by rfl, by rintro _ ⟨y, rfl⟩; go_simp; try exact IntWalk.i64_in _ (by omega)⟩, ?_⟩
      simp only [Act.put, List.setIfInBounds_toArray, List.set_cons_zero, List.set_cons_succ]
      refine ⟨.int .i64 x.1.2.1, .inl ⟨by rfl, by rintro _ ⟨y, rfl⟩; go_simp; try exact IntWalk.i64_in _ (by omega)⟩, ?_⟩
      simp only [Act.put, List.setIfInBounds_toArray, List.set_cons_zero, List.set_cons_succ]
      refine ⟨.int .i64 (x.1.1.1 - x.1.2.1), .inl ⟨by rfl, by rintro _ ⟨y, rfl⟩; go_simp; try exact IntWalk.i64_in _ (by omega)⟩, ?_⟩
      simp only [Act.put, List.setIfInBounds_toArray, List.set_cons_zero, List.set_cons_succ]
      refine ⟨.int .i64 d, .inl ⟨by rfl, by rintro _ ⟨y, rfl⟩; go_simp; try exact IntWalk.i64_in _ (by omega)⟩, ?_⟩
      simp only [Act.put, List.setIfInBounds_toArray, List.set_cons_zero, List.set_cons_succ]
      refine ⟨.int .i64 ((x.1.1.1 - x.1.2.1).tdiv d), .inl ⟨by rfl, by rintro _ ⟨y, rfl⟩; go_simp; try exact IntWalk.i64_in _ (by omega)⟩, ?_⟩
      simp only [Act.put, List.setIfInBounds_toArray, List.set_cons_zero, List.set_cons_succ]
      refine ⟨.agg #[.int .i64 ((x.1.2.2 - x.1.1.2).tdiv d), .int .i64 ((x.1.1.1 - x.1.2.1).tdiv d)], .inl ⟨by rfl, by rintro _ ⟨y, rfl⟩; go_simp; try exact IntWalk.i64_in _ (by omega)⟩, ?_⟩
      simp only [Act.put, List.setIfInBounds_toArray, List.set_cons_zero, List.set_cons_succ]
      simp only [takes, wpOp, List.getElem?_toArray, List.getElem?_cons_succ, List.getElem?_cons_zero]
      rw [if_pos (by rfl)]
      refine .inl ?_
      unfold Oper.wp
      go_simp
      refine ⟨⟨⟨_, (b1 _ _).drew⟩, rfl⟩, ?_⟩
      change wpList _ _ _ _ _ (w3.drew.alloc _)
      have hb4 : Below w3.heap.size w3 w3.drew := (Below.refl _ w3).drew
      have hv4 := boxed_ext hv3 hb4
      have hrow4 := owns_next hrow3 hb4
      have bP4 := boxed_ext bP3 hb4
      have hB4 := nextB hB3 hb4
      have hF4 : KeepsFrom W0.heap.size W w3.drew := hF3.trans (keepsFrom_of hb4)
      have hk4 : KeepB w2.heap.size (w2.heap.size + 1) W w3.drew := hk3.trans (KeepB.ext hB3.size (by omega) hb4)
      have hz4 : W0.heap.size ≤ w3.drew.heap.size := hz3
      have hsz4 : w3.heap.size = w3.drew.heap.size := rfl
      rw [hsz4]
      clear hsz4 hb4 hv3 hrow3 bP3 hB3 hF3 hk3 hz3 x10 x11 x20 x21 xO K1 K2
      generalize w3.drew = w4 at *
      have hF4 := Lib.hid hF4
      have hk4 := Lib.hid hk4
      have bP4 := Lib.hid bP4
      go_wp2_with (at_builtin; refine wpList_append_own _ rfl _ _ 22 rfl w2.heap.size 32 i0 (.agg #[.int .i64 0, .int .i64 0]) 2 16 Try.underlying22 G0.out G1.out G2.out G3.out rfl (by decide) _ _ _ rfl (hrow4.alloc _) ⟨w4.heap.size, 0, none⟩ 1 1 [.int .i64 ((x.1.2.2 - x.1.1.2).tdiv d), .int .i64 ((x.1.1.1 - x.1.2.1).tdiv d)] rfl rfl (cell_two_new _ _ _ _) (by simp [Value.oneCell']) (by unfold maxLen; omega) (by omega) (by have := hB4.size; simp; omega) ?_; intro v' w5 hown' hgrow _; obtain ⟨g', cap', rfl⟩ := ownsRow_succ hown'; obtain ⟨hv1, hv2, hr2, hk2, hb2⟩ := hv4.appended (by decide) hrow4 hB4.size (Nat.le_refl _) hown' hgrow; have hc1 := hv1.cell; have hf1 := hv1.frozen)
      replace hgrow : (w4.alloc (.cells #[.int .i64 ((x.1.2.2 - x.1.1.2).tdiv d), .int .i64 ((x.1.1.1 - x.1.2.1).tdiv d)] 32)).grownBy w5 v.ownBlock := hgrow
      have bP5 : Boxed (w5.setCell ⟨w2.heap.size, 0, none⟩ (.slice (some ⟨g', 0, none⟩) (pre.length + 1) cap')) (w2.heap.size + 1) 54 (.slice (some ⟨g, 0, none⟩) n c') :=
        boxed_other ((bP4.out.alloc _).kept hgrow (bP4.out.not_row (by decide) hrow4)) (by omega) _
      exact ⟨hF4.out.trans (hk2.from _), hk4.out.trans ⟨hb2, (show _ = _ from bP5).trans (show _ = _ from bP4.out).symm⟩, ⟨⟨_, hv2, by rw [List.length_append, oppCells_snoc, hopp.out]; exact hr2, trivial⟩, bP5⟩, hB4.trans hb2, Nat.le_trans hz4 hb2.size⟩
    case done =>
      rintro D zs W hD hz ⟨⟨⟨v, hv, hrow, ht⟩, bP1⟩, hB1, hz1⟩ hK
      have hl : zs.length = n := by rw [← List.length_map (f := (·.1)), hz]; simp [sidesTo]
      rw [hl, oppCells_all hz] at hrow
      obtain ⟨g', cap', rfl⟩ : ∃ g cap, v = .slice (some ⟨g, 0, none⟩) n cap := by
        obtain ⟨m, hm⟩ : ∃ m, n = m + 1 := ⟨n - 1, by omega⟩
        have h := hrow
        rw [hm] at h ⊢
        exact ownsRow_succ h
      have hc := hv.cell
      clear hz hl
      gi_wp2
      refine ⟨by simp, .inl ⟨_, _, rfl, run_takeDeferred hK, ?_⟩⟩
      exact ⟨_, results_tmp2 rfl _ _ _, nextB hB (hB1.trans (belowK_b (w := w2) (Nat.le_refl _) W D _ _ (by omega) hK rfl rfl)), g', cap', rfl, .inr ⟨g', 0, rfl, fun i hi => owns_pts (ownsRow_putObj hrow _ hK rfl) i hi⟩⟩
    case stop =>
      rintro D c pre W _ _ h _
      exact h.elim
  · exact absurd hn'.out hp
end Go.Proofs.Ytnjegnlfdbbleaa
