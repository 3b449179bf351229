/- Layer 1: corners. -/
import Derived.Test.YtnjegnlfdbbleaaSb
namespace Go.Proofs.Ytnjegnlfdbbleaa
open Go Go.RowKit Go.Shelf

theorem block6_set {W : World} {B : Nat} {t : TypeId} {u0 u1 u2 u3 u4 u5 : Value} (h : W.heap[B]? = some (.cells #[u0, u1, u2, u3, u4, u5] t (0, 0))) (a b c d e f : Int) :
    ((((((W.setCell ⟨B, 0, none⟩ (.int .i64 a)).setCell ⟨B, 1, none⟩ (.int .i64 b)).setCell ⟨B, 2, none⟩ (.int .i64 c)).setCell ⟨B, 3, none⟩ (.int .i64 d)).setCell ⟨B, 4, none⟩ (.int .i64 e)).setCell ⟨B, 5, none⟩ (.int .i64 f)).heap[B]? = some (.cells #[.int .i64 a, .int .i64 b, .int .i64 c, .int .i64 d, .int .i64 e, .int .i64 f] t (0, 0)) := by
  simp [World.setCell, Array.getElem?_modify, h]
theorem below6_set {n₀ : Nat} {w W : World} {B : Nat} (h : Below n₀ w W) (hB : n₀ ≤ B) (a b c d e f : Value) :
    Below n₀ w ((((((W.setCell ⟨B, 0, none⟩ a).setCell ⟨B, 1, none⟩ b).setCell ⟨B, 2, none⟩ c).setCell ⟨B, 3, none⟩ d).setCell ⟨B, 4, none⟩ e).setCell ⟨B, 5, none⟩ f) :=
  (((((h.setCell (p := ⟨B, 0, none⟩) hB _).setCell (p := ⟨B, 1, none⟩) hB _).setCell (p := ⟨B, 2, none⟩) hB _).setCell (p := ⟨B, 3, none⟩) hB _).setCell (p := ⟨B, 4, none⟩) hB _).setCell (p := ⟨B, 5, none⟩) hB _

set_option maxRecDepth 100000 in
set_option maxHeartbeats 1600000 in
theorem corner_any (b off n c i : Nat) (p : Nat → Int × Int) (w : World) (h1 : 1 ≤ n) (h10 : n ≤ 10) (hi : i < n)
    (hc : ∀ i, i < n → w.cell? ⟨b, off + i * 2, none⟩ = some (.int .i64 (p i).1) ∧ w.cell? ⟨b, off + i * 2 + 1, none⟩ = some (.int .i64 (p i).2)) :
    Calls Try.prog 76 #[.slice (some ⟨b, off, none⟩) n c, .int .i64 i] w (Ret (encT (p ((i + n - 1) % n)) (p i) (p ((i + 1) % n))) w) := by
  have hi0 : (0 : Int) ≤ (i : Int) := by omega
  have hi1 : (i : Int) < (n : Int) := by omega
  obtain ⟨m0, m1, m2⟩ := mod_at1 i n (by omega)
  obtain ⟨m3, m4, m5⟩ := mod_at (i + n - 1) n (by omega)
  rw [show ((i + n - 1 : Nat) : Int) = (i : Int) + (n : Int) - 1 by omega] at m3 m4 m5
  have hq : (i + 1) % n < n := Nat.mod_lt _ (by omega)
  have hq' : (i + n - 1) % n < n := Nat.mod_lt _ (by omega)
  obtain ⟨e0, e1⟩ := hc i hi
  obtain ⟨f0, f1⟩ := hc _ hq
  obtain ⟨g0, g1⟩ := hc _ hq'
  have hb : b < w.heap.size := block_lt_of_cell e0
  have hc := Lib.hid hc
  go_enter Try.func76, Try.ntmps76
  go_wp2
  have E0 := cellX (cellB (b1 w (.cells #[.int .i64 0, .int .i64 0, .int .i64 0, .int .i64 0, .int .i64 0, .int .i64 0] 79)) e0)
  have E1 := cellX (cellB (b1 w (.cells #[.int .i64 0, .int .i64 0, .int .i64 0, .int .i64 0, .int .i64 0, .int .i64 0] 79)) e1)
  have F0 := cellX (cellB (b1 w (.cells #[.int .i64 0, .int .i64 0, .int .i64 0, .int .i64 0, .int .i64 0, .int .i64 0] 79)) f0)
  have F1 := cellX (cellB (b1 w (.cells #[.int .i64 0, .int .i64 0, .int .i64 0, .int .i64 0, .int .i64 0, .int .i64 0] 79)) f1)
  have A0 := cellX (cellB (b1 w (.cells #[.int .i64 0, .int .i64 0, .int .i64 0, .int .i64 0, .int .i64 0, .int .i64 0] 79)) g0)
  have A1 := cellX (cellB (b1 w (.cells #[.int .i64 0, .int .i64 0, .int .i64 0, .int .i64 0, .int .i64 0, .int .i64 0] 79)) g1)
  clear e0 e1 f0 f1 g0 g1
  refine wp_region_ext_tail 21 (by kernel_rfl) (by kernel_rfl) ?_
  dsimp only [List.take, List.drop]
  repeat (go_big_quiet_step (fail))
  refine wpQuiet_nil ?_
  intro x
  have hblk : x.world.heap[w.heap.size]? = some (.cells #[.int .i64 0, .int .i64 0, .int .i64 0, .int .i64 0, .int .i64 0, .int .i64 0] 79 (0, 0)) := (x.ok.block _ (by simp)).trans (heap_alloc_new w _)
  have hB := nextB (b1 w _) x.ok
  have z : ∀ k, k < 6 → x.world.cell? ⟨w.heap.size, k, none⟩ = some (.int .i64 0) := by
    intro k hk
    have : k = 0 ∨ k = 1 ∨ k = 2 ∨ k = 3 ∨ k = 4 ∨ k = 5 := by omega
    rcases this with h | h | h | h | h | h <;> (subst h; simp [World.cell?, hblk])
  have zf : ∀ k, x.world.frozen? ⟨w.heap.size, k, none⟩ = false := fun k => by simp [World.frozen?, hblk]
  have z0 := z 0 (by omega)
  have z1 := z 1 (by omega)
  have z2 := z 2 (by omega)
  have z3 := z 3 (by omega)
  have z4 := z 4 (by omega)
  have z5 := z 5 (by omega)
  have y0 := zf 0
  have y1 := zf 1
  have y2 := zf 2
  have y3 := zf 3
  have y4 := zf 4
  have y5 := zf 5
  have hblk := Lib.hid hblk
  clear z zf E0 E1 F0 F1 A0 A1
  go_wp2
  have hs := block6_set hblk.out (p ((i + n - 1) % n)).1 (p ((i + n - 1) % n)).2 (p i).1 (p i).2 (p ((i + 1) % n)).1 (p ((i + 1) % n)).2
  have hb6 := below6_set hB (Nat.le_refl _) (.int .i64 (p ((i + n - 1) % n)).1) (.int .i64 (p ((i + n - 1) % n)).2) (.int .i64 (p i).1) (.int .i64 (p i).2) (.int .i64 (p ((i + 1) % n)).1) (.int .i64 (p ((i + 1) % n)).2)
  exact bodyPost_ret (v := encT (p ((i + n - 1) % n)) (p i) (p ((i + 1) % n))) (by simp [results, Try.results76, go_sem, World.cell?, hs]) rfl (Ret.mk rfl hb6)
end Go.Proofs.Ytnjegnlfdbbleaa
