/- Layer 1: Split at the smallest triangle. -/
import Derived.Test.YtnjegnlfdbbleaaSg
namespace Go.Proofs.Ytnjegnlfdbbleaa
open Go Go.RowKit Go.Shelf

theorem infoThree : (Try.prog.info? 80).map (fun i => (i.zero, i.size, i.bytes)) = some (some (.agg #[.int .i64 0, .int .i64 0, .int .i64 0, .int .i64 0, .int .i64 0, .int .i64 0]), 6, 48) := by kernel_rfl
theorem Box6.kept6 {w w' : World} {g : Nat} {a b c : Int × Int} {row : Option Nat} (h : Box6 w g a b c) (hg : w.grownBy w' row) (hr : row = none) : Box6 w' g a b c := by
  have q : ∀ p v, w.cell? p = some v → w'.cell? p = some v := fun p v hv => cell_kept hv hg (fun r e => by rw [hr] at e; cases e)
  exact ⟨⟨q _ _ h.1.1, q _ _ h.1.2⟩, ⟨q _ _ h.2.1.1, q _ _ h.2.1.2⟩, ⟨q _ _ h.2.2.1, q _ _ h.2.2.2⟩⟩
theorem triP_pen : PenP 3 triP := by decide
set_option maxRecDepth 100000 in
set_option maxHeartbeats 4000000 in
theorem Split_tri (b off c : Nat) (w : World)
    (hc : ∀ i, i < 3 → w.cell? ⟨b, off + i * 2, none⟩ = some (.int .i64 (triP i).1) ∧ w.cell? ⟨b, off + i * 2 + 1, none⟩ = some (.int .i64 (triP i).2)) :
    Calls Try.prog 34 #[.slice (some ⟨b, off, none⟩) (3 : Nat) c] w fun e w' => Below w.heap.size w w' ∧ ∃ g cap, e = .returned (.tuple #[.slice (some ⟨g, 0, none⟩) 1 cap, .int .i64 0]) := by
  obtain ⟨i0, hi, hz0, hz1, hz2⟩ := info_parts infoThree
  have G0 := Lib.hid hi
  have G1 := Lib.hid hz0
  have G2 := Lib.hid hz1
  have G3 := Lib.hid hz2
  clear hi hz0 hz1 hz2
  have H := Lib.hid (penOf_any (some ⟨b, off, none⟩) 3 c triP w (by omega) (.inr ⟨b, off, rfl, hc⟩))
  clear hc
  go_enter Try.func34, Try.ntmps34
  go_wp2_with fail
  refine H.out.mono ?_
  rintro e w1 ⟨hb1, (⟨hp, g, c', rfl, hc'⟩ | ⟨hp, a', m', c', rfl⟩)⟩
  · have HA := area_any g 0 3 c' triP w1 (by omega) (by omega) triP_sm hc'
    rw [show areaI 3 triP = 1 by decide] at HA
    replace HA := Lib.hid HA
    have hc1 := Lib.hid hc'
    clear hp hc' H
    dsimp only
    go_wp2_with fail
    refine HA.out.mono ?_
    rintro e w2 ⟨rfl, hb2⟩
    dsimp only
    have HS := Lib.hid (split_tri g 0 c' w2 (pts_next hb2 hc1.out))
    clear HA hc1
    go_wp2_with fail
    refine HS.out.mono ?_
    rintro e w3 ⟨hb3, g3, c3, rfl, T3⟩
    dsimp only
    have B3 := nextB hb1 (nextB hb2 hb3)
    clear HS hb1 hb2 hb3
    go_wp2
    go_loopw [6, 22] (fun v i wr => Below w.heap.size w wr ∧ Box6 wr g3 (triP 2) (triP 0) (triP 1) ∧ ((v = .slice none 0 0 ∧ i = .int .i64 0) ∨ ∃ g cap, v = .slice (some ⟨g, 0, none⟩) 1 cap ∧ i = .int .i64 1)) (fun _ i _ => (1 - intOf i).toNat)
    case atStart => exact ⟨B3, T3, .inl ⟨rfl, rfl⟩⟩
    case round =>
      clear B3 T3
      obtain ⟨B3, T3, (⟨rfl, rfl⟩ | ⟨g4, cap4, rfl, rfl⟩)⟩ := hrel
      · obtain ⟨⟨t0, t1⟩, ⟨t2, t3⟩, ⟨t4, t5⟩⟩ := id T3
        have hg := block_lt_of_cell t0
        go_wp2
        have x0 := cellX (show (wr.alloc (.cells #[.int .i64 (triP 2).1, .int .i64 (triP 2).2, .int .i64 (triP 0).1, .int .i64 (triP 0).2, .int .i64 (triP 1).1, .int .i64 (triP 1).2] 79)).cell? ⟨wr.heap.size, 0, none⟩ = some (.int .i64 (triP 2).1) by go_simp)
        have x1 := cellX (show (wr.alloc (.cells #[.int .i64 (triP 2).1, .int .i64 (triP 2).2, .int .i64 (triP 0).1, .int .i64 (triP 0).2, .int .i64 (triP 1).1, .int .i64 (triP 1).2] 79)).cell? ⟨wr.heap.size, 1, none⟩ = some (.int .i64 (triP 2).2) by go_simp)
        have x2 := cellX (show (wr.alloc (.cells #[.int .i64 (triP 2).1, .int .i64 (triP 2).2, .int .i64 (triP 0).1, .int .i64 (triP 0).2, .int .i64 (triP 1).1, .int .i64 (triP 1).2] 79)).cell? ⟨wr.heap.size, 2, none⟩ = some (.int .i64 (triP 0).1) by go_simp)
        have x3 := cellX (show (wr.alloc (.cells #[.int .i64 (triP 2).1, .int .i64 (triP 2).2, .int .i64 (triP 0).1, .int .i64 (triP 0).2, .int .i64 (triP 1).1, .int .i64 (triP 1).2] 79)).cell? ⟨wr.heap.size, 3, none⟩ = some (.int .i64 (triP 0).2) by go_simp)
        have x4 := cellX (show (wr.alloc (.cells #[.int .i64 (triP 2).1, .int .i64 (triP 2).2, .int .i64 (triP 0).1, .int .i64 (triP 0).2, .int .i64 (triP 1).1, .int .i64 (triP 1).2] 79)).cell? ⟨wr.heap.size, 4, none⟩ = some (.int .i64 (triP 1).1) by go_simp)
        have x5 := cellX (show (wr.alloc (.cells #[.int .i64 (triP 2).1, .int .i64 (triP 2).2, .int .i64 (triP 0).1, .int .i64 (triP 0).2, .int .i64 (triP 1).1, .int .i64 (triP 1).2] 79)).cell? ⟨wr.heap.size, 5, none⟩ = some (.int .i64 (triP 1).2) by go_simp)
        have B4 : Below w.heap.size w (wr.alloc (.cells #[.int .i64 (triP 2).1, .int .i64 (triP 2).2, .int .i64 (triP 0).1, .int .i64 (triP 0).2, .int .i64 (triP 1).1, .int .i64 (triP 1).2] 79)) := B3.alloc B3.size _
        have T4 := T3.next (b1 wr (.cells #[.int .i64 (triP 2).1, .int .i64 (triP 2).2, .int .i64 (triP 0).1, .int .i64 (triP 0).2, .int .i64 (triP 1).1, .int .i64 (triP 1).2] 79))
        clear t0 t1 t2 t3 t4 t5 T3
        refine wp_region_take_tail 11 (.slice none 0 0) (by kernel_rfl) (by kernel_rfl) (fun _ _ _ h => h) (.inl ⟨by rfl, fun w => by go_simp⟩) ?_
        simp only [Act.put, List.setIfInBounds_toArray, List.set_cons_zero, List.set_cons_succ]
        dsimp only [List.take, List.drop, Nat.reduceSub]
        repeat (go_big_quiet_step ((go_at_call 55; exact callE (pointOf_any _ _ _))))
        refine wpQuiet_nil ?_
        intro y
        have B5 := nextB B4 y.ok
        have T5 := T4.next y.ok
        clear x0 x1 x2 x3 x4 x5 B4 T4
        go_wp2_with (at_builtin; refine wpList_append_own _ rfl _ _ 50 rfl w.heap.size 80 i0 (.agg #[.int .i64 0, .int .i64 0, .int .i64 0, .int .i64 0, .int .i64 0, .int .i64 0]) 6 48 Try.underlying50 G0.out G1.out G2.out G3.out rfl (by decide) _ _ _ rfl (World.ownsRow_nil _ _ _ _) ⟨y.world.heap.size, 0, none⟩ 1 1 (cellsT (triP 2) (triP 0) (triP 1)) rfl rfl (cell_six_new' _ _ _ _ _ rfl) (one_six _ _ _) (by decide) (by decide) (by have := B5.size; simp; omega) ?_; intro v' w5 hown5 hgrow _; rw [Nat.zero_add, List.nil_append] at hown5; obtain ⟨g', cap', rfl⟩ := ownsRow_succ hown5)
        go_roundw
        case rel => exact ⟨(B5.alloc B5.size _).grown hgrow (by have := B5.size; simp; omega) (fun _ h => by cases h), (T5.next (b1 _ _)).kept6 hgrow (by simp [Act.eval, Value.ownBlock]), .inr ⟨g', cap', rfl, rfl⟩⟩
        case measure => simp [intOf]
      · go_wp2
        go_ret2
        exact ⟨B3, g4, cap4, rfl⟩
  · exact absurd triP_pen hp
end Go.Proofs.Ytnjegnlfdbbleaa
