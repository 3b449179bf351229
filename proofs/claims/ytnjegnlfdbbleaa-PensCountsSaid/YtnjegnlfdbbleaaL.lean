/- Layer 1: what every right program knows of a square and of a triangle. -/
import Derived.Test.YtnjegnlfdbbleaaSh
namespace Go.Proofs.Ytnjegnlfdbbleaa
open Go Go.RowKit Go.Shelf

def sqP (i : Nat) : Int × Int := if i = 0 then (0, 0) else if i = 1 then (2, 0) else if i = 2 then (2, 2) else (0, 2)
def oP (i : Nat) : Int × Int := if i = 0 then (1, 0) else if i = 1 then (0, 1) else (-1, -1)
def qP (i : Nat) : Int × Int := if i = 0 then (1, 1) else if i = 1 then (-2, 1) else (1, -2)
theorem sq_pen : PenP 4 sqP := by decide
theorem sq_area : areaI 4 sqP = 8 := by decide
theorem sq_border : borderI 4 sqP = 8 := by decide
theorem o_pen : PenP 3 oP := by decide
theorem o_round : RoundC 3 oP := by decide
theorem o_flat : ∀ i, i < 3 → NotFlat (sideAt 3 oP i) := by decide
theorem o_opp : ∀ i, i < 3 → oppI (sideAt 3 oP i) = qP i := by decide
/-- The points of a block that has just been laid. -/
theorem pts_new (w : World) (t : TypeId) (n : Nat) (p : Nat → Int × Int) (cs : Array Value) (h : cs.toList = cellsOf p n) : Pts (w.alloc (.cells cs t)) (some ⟨w.heap.size, 0, none⟩) n p := by
  refine .inr ⟨_, 0, rfl, fun i hi => ?_⟩
  obtain ⟨h1, h2⟩ := cellsOf_at p n i hi
  have hb := heap_alloc_new w (.cells cs t)
  rw [← h, Array.getElem?_toList] at h1 h2
  constructor
  · simp only [World.cell?, hb, Nat.zero_add]; exact h1
  · simp only [World.cell?, hb, Nat.zero_add]; exact h2

set_option maxRecDepth 100000 in
set_option maxHeartbeats 4000000 in
theorem alive_any (w : World) : Calls Try.prog 13 #[] w (Ret (.bool true) w) := by
  go_enter Try.func13, Try.ntmps13
  go_wp2_with fail
  refine (square_any _).mono ?_
  rintro e w1 ⟨rfl, rfl⟩
  dsimp only
  have B := b1 w (.cells #[.int .i64 0, .int .i64 0, .int .i64 2, .int .i64 0, .int .i64 2, .int .i64 2, .int .i64 0, .int .i64 2] 32)
  have HP := pts_new w 32 4 sqP #[.int .i64 0, .int .i64 0, .int .i64 2, .int .i64 0, .int .i64 2, .int .i64 2, .int .i64 0, .int .i64 2] rfl
  go_wp2_with fail
  refine (Area_yes _ 4 4 sqP _ (by omega) HP sq_pen).mono ?_
  rintro e w2 ⟨rfl, hb2⟩
  rw [sq_area]
  dsimp only
  replace B := nextB B hb2
  clear hb2 HP
  go_wp2_with fail
  refine (square_any _).mono ?_
  rintro e w1 ⟨rfl, rfl⟩
  dsimp only
  replace B := nextB B (b1 w2 (.cells #[.int .i64 0, .int .i64 0, .int .i64 2, .int .i64 0, .int .i64 2, .int .i64 2, .int .i64 0, .int .i64 2] 32))
  have HP := pts_new w2 32 4 sqP #[.int .i64 0, .int .i64 0, .int .i64 2, .int .i64 0, .int .i64 2, .int .i64 2, .int .i64 0, .int .i64 2] rfl
  go_wp2_with fail
  refine (Count_yes _ 4 4 sqP _ (by omega) HP sq_pen).mono ?_
  rintro e w3 ⟨rfl, hb3⟩
  rw [sq_area, sq_border, show grownI 8 8 (-1) = 1 by decide]
  dsimp only
  replace B := nextB B hb3
  clear hb3 HP
  go_wp2_with fail
  refine (square_any _).mono ?_
  rintro e w1 ⟨rfl, rfl⟩
  dsimp only
  replace B := nextB B (b1 w3 (.cells #[.int .i64 0, .int .i64 0, .int .i64 2, .int .i64 0, .int .i64 2, .int .i64 2, .int .i64 0, .int .i64 2] 32))
  have HP := pts_new w3 32 4 sqP #[.int .i64 0, .int .i64 0, .int .i64 2, .int .i64 0, .int .i64 2, .int .i64 2, .int .i64 0, .int .i64 2] rfl
  go_wp2_with fail
  refine (Grown_yes _ 4 4 sqP 2 _ (by omega) HP sq_pen (by omega) (by omega)).mono ?_
  rintro e w4 ⟨rfl, hb4⟩
  rw [sq_area, sq_border, show grownI 8 8 2 = 25 by decide, show grownI 8 8 (-2) = 9 by decide]
  dsimp only
  replace B := nextB B hb4
  clear hb4 HP
  go_wp2_with fail
  have HP := pts_new w4 32 3 oP #[.int .i64 1, .int .i64 0, .int .i64 0, .int .i64 1, .int .i64 (-1), .int .i64 (-1)] rfl
  refine calls_at (F := fun W => Below w.heap.size w W ∧ Pts W (some ⟨w4.heap.size, 0, none⟩) 3 oP) ⟨nextB B (b1 _ _), HP⟩ ?_
  rintro W ⟨B5, HP5⟩
  clear B HP
  refine (Opposite_yes _ 3 3 oP W (by omega) HP5 o_pen o_round o_flat).mono ?_
  rintro e w5 ⟨hb5, g5, c5, rfl, hO⟩
  dsimp only
  have B := nextB B5 hb5
  clear B5 HP5 hb5
  go_wp2_with fail
  have HP := pts_new w5 32 3 triP #[.int .i64 0, .int .i64 0, .int .i64 1, .int .i64 0, .int .i64 0, .int .i64 1] rfl
  refine calls_at (F := fun W => Below w5.heap.size w5 W ∧ Pts W (some ⟨w5.heap.size, 0, none⟩) 3 triP) ⟨b1 _ _, HP⟩ ?_
  rintro W ⟨B6, HP6⟩
  clear HP
  obtain ⟨b', off', e', hc'⟩ := ptsOf HP6 (by omega)
  cases e'
  refine (Split_tri _ _ 3 W hc').mono ?_
  rintro e w6 ⟨hb6, g6, c6, rfl⟩
  dsimp only
  replace B := nextB B (nextB B6 hb6)
  replace hO := (hO.next B6).next hb6
  clear B6 HP6 hc' hb6
  go_wp2_with fail
  have HQ := pts_new w6 32 3 qP #[.int .i64 1, .int .i64 1, .int .i64 (-2), .int .i64 1, .int .i64 1, .int .i64 (-2)] rfl
  have hsame := same_any (some ⟨g5, 0, none⟩) (some ⟨w6.heap.size, 0, none⟩) 3 3 c5 3 (fun i => oppI (sideAt 3 oP i)) qP _ (by omega) (by omega) (hO.next (b1 w6 (.cells #[.int .i64 1, .int .i64 1, .int .i64 (-2), .int .i64 1, .int .i64 1, .int .i64 (-2)] 32))) HQ
  rw [decide_eq_true (show SameP 3 3 (fun i => oppI (sideAt 3 oP i)) qP from ⟨rfl, o_opp⟩)] at hsame
  refine hsame.mono ?_
  rintro e w7 ⟨rfl, hb7⟩
  dsimp only
  replace B := nextB B (nextB (b1 _ _) hb7)
  clear hsame HQ hO hb7
  go_wp2
  go_ret
  exact Ret.mk rfl B
end Go.Proofs.Ytnjegnlfdbbleaa
