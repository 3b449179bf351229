/- Layer 1: a pen, leftwards; the ears of a triangle. -/
import Derived.Test.YtnjegnlfdbbleaaSc
namespace Go.Proofs.Ytnjegnlfdbbleaa
open Go Go.RowKit Go.Shelf

set_option maxRecDepth 100000 in
set_option maxHeartbeats 1600000 in
theorem leftwards_left (b off n c : Nat) (p : Nat → Int × Int) (w : World) (h1 : 1 ≤ n) (h10 : n ≤ 10) (hs : ∀ i, i < n → Sm 50 (p i)) (h0 : 0 ≤ signedI n p)
    (hc : ∀ i, i < n → w.cell? ⟨b, off + i * 2, none⟩ = some (.int .i64 (p i).1) ∧ w.cell? ⟨b, off + i * 2 + 1, none⟩ = some (.int .i64 (p i).2)) :
    Calls Try.prog 67 #[.slice (some ⟨b, off, none⟩) n c] w fun e w' => Below w.heap.size w w' ∧ ∃ g cap, e = .returned (.slice (some ⟨g, 0, none⟩) n cap) ∧
      ∀ i, i < n → w'.cell? ⟨g, 0 + i * 2, none⟩ = some (.int .i64 (p i).1) ∧ w'.cell? ⟨g, 0 + i * 2 + 1, none⟩ = some (.int .i64 (p i).2) := by
  have H := Lib.hid (clone_any b off n c p w h1 h10 hc)
  have HS : Hid (∀ w1, Below w.heap.size w w1 → _) := Lib.hid fun w1 hb => signed_any b off n c p w1 h1 h10 hs (pts_next hb hc)
  clear hs hc
  generalize signedI n p = S at *
  go_enter Try.func67, Try.ntmps67
  go_wp2_with (first
    | (go_at_call 74; refine H.out.mono ?_; rintro e w1 ⟨hb1, g, cap, rfl, hown⟩; have hown := Lib.hid hown)
    | (go_at_call 60; refine (HS.out _ hb1).mono ?_; rintro e w2 ⟨rfl, hb2⟩))
  go_ret
  exact ⟨nextB hb1 hb2, g, cap, rfl, fun i hi => owns_pts (owns_next hown.out hb2) i hi⟩

theorem infoTri : (Try.prog.info? 79).map (fun i => (i.zero, i.size, i.bytes)) = some (some (.agg #[.int .i64 0, .int .i64 0, .int .i64 0, .int .i64 0, .int .i64 0, .int .i64 0]), 6, 48) := by kernel_rfl
/-- The cells of a triangle. -/
abbrev cellsT (a b c : Int × Int) : List Value := [.int .i64 a.1, .int .i64 a.2, .int .i64 b.1, .int .i64 b.2, .int .i64 c.1, .int .i64 c.2]
theorem cell_six_new (w : World) (a b c : Int × Int) (t : TypeId) : ∀ j u, (cellsT a b c)[j]? = some u →
    (w.alloc (.cells #[.int .i64 a.1, .int .i64 a.2, .int .i64 b.1, .int .i64 b.2, .int .i64 c.1, .int .i64 c.2] t)).cell? (Addr.add ⟨w.heap.size, 0, none⟩ j) = some u := by
  intro j u h
  have hl : j < 6 := (List.getElem?_eq_some_iff.1 h).1
  have ha : Addr.add ⟨w.heap.size, 0, none⟩ j = ⟨w.heap.size, j, none⟩ := by simp [Addr.add]; omega
  rw [ha]
  clear ha
  have hj : j = 0 ∨ j = 1 ∨ j = 2 ∨ j = 3 ∨ j = 4 ∨ j = 5 := by omega
  rcases hj with rfl | rfl | rfl | rfl | rfl | rfl <;> (simp at h; subst h; go_simp)
theorem one_six (a b c : Int × Int) : ∀ u ∈ cellsT a b c, u.oneCell' = true := by
  intro u hu
  simp only [cellsT, List.mem_cons, List.not_mem_nil, or_false] at hu
  rcases hu with rfl | rfl | rfl | rfl | rfl | rfl <;> rfl

set_option maxRecDepth 100000 in
set_option maxHeartbeats 1600000 in
theorem ears_three (b off c : Nat) (p : Nat → Int × Int) (w : World)
    (hc : ∀ i, i < 3 → w.cell? ⟨b, off + i * 2, none⟩ = some (.int .i64 (p i).1) ∧ w.cell? ⟨b, off + i * 2 + 1, none⟩ = some (.int .i64 (p i).2)) :
    Calls Try.prog 66 #[.slice (some ⟨b, off, none⟩) (3 : Nat) c] w fun e w' => Below w.heap.size w w' ∧ ∃ g cap, e = .returned (.slice (some ⟨g, 0, none⟩) 1 cap) ∧
      w'.ownsRow w.heap.size 79 6 (.slice (some ⟨g, 0, none⟩) 1 cap) 1 (cellsT (p 2) (p 0) (p 1)) := by
  have H := Lib.hid (clone_any b off 3 c p w (by omega) (by omega) hc)
  clear hc
  obtain ⟨i0, hi, hz0, hz1, hz2⟩ := info_parts infoTri
  have G0 := Lib.hid hi
  have G1 := Lib.hid hz0
  have G2 := Lib.hid hz1
  have G3 := Lib.hid hz2
  clear hi hz0 hz1 hz2
  go_enter Try.func66, Try.ntmps66
  go_wp2_with (go_at_call 74; refine H.out.mono ?_; rintro e w1 ⟨hb1, g, cap, rfl, hown⟩; have HP := Lib.hid (owns_pts hown); clear hown)
  go_loopw [3, 4, 5] (fun r o i wr => r = .slice (some ⟨g, 0, none⟩) (3 : Nat) cap ∧ o = .slice none 0 0 ∧ wr = w1) (fun _ _ _ _ => 0)
  case atStart => exact ⟨rfl, rfl, rfl⟩
  case round =>
    obtain ⟨rfl, rfl, rfl⟩ := hrel
    go_wp2_with fail
    refine (corner_any g 0 3 cap 0 p wr (by omega) (by omega) (by omega) HP.out).mono ?_
    rintro e w2 ⟨rfl, hb2⟩
    dsimp only [encT]
    have hB := nextB hb1 hb2
    go_wp2_with (at_builtin; refine wpList_append_own _ rfl _ _ 76 rfl w.heap.size 79 i0 (.agg #[.int .i64 0, .int .i64 0, .int .i64 0, .int .i64 0, .int .i64 0, .int .i64 0]) 6 48 Try.underlying76 G0.out G1.out G2.out G3.out rfl (by decide) _ _ _ rfl (World.ownsRow_nil _ _ _ _) ⟨w2.heap.size, 0, none⟩ 1 1 (cellsT (p 2) (p 0) (p 1)) rfl rfl (cell_six_new w2 (p 2) (p 0) (p 1) _) (one_six _ _ _) (by decide) (by decide) (by have := hB.size; simp; omega) ?_; intro v' w3 hown3 hgrow _; rw [Nat.zero_add, List.nil_append] at hown3; obtain ⟨g', cap', rfl⟩ := ownsRow_succ hown3)
    go_ret
    exact ⟨(hB.alloc hB.size _).grown hgrow (by have := hB.size; simp; omega) (fun _ h => by cases h), g', cap', rfl, hown3⟩
end Go.Proofs.Ytnjegnlfdbbleaa
