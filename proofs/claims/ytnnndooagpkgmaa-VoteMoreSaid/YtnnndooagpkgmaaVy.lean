/- Layer 3, by the program: Power. -/
import Derived.Test.YtnnndooagpkgmaaVx
import Derived.Laws.EntriesVeiled
namespace Go.Proofs.Ytnnndooagpkgmaa
open Go Go.RowKit

theorem mis_zero (n : Nat) : mis 0 n = n := by
  unfold mis
  induction n with
  | zero => rfl
  | succ n ih => rw [cnt, ih]; simp
theorem make_cn (m : Nat) (hm : m ≤ 1000000) (W : World) : (Instr.makeSlice 22 (.int .i64 (m : Int)) (.int .i64 (m : Int))).run Try.prog W = .ok (.slice (some ⟨W.heap.size, 0, none⟩) m m) (W.alloc (.cells (cN (fun _ => 0) m) 3)) := by
  rw [make_ints m hm (fun _ => .int .i64 0) W]
  have e : cU (fun _ => Value.int .i64 0) (.int .i64 0) 0 m = cN (fun _ => 0) m := by
    apply Array.ext
    · simp [cU, cN]
    · intro i h1 h2; simp [cU, cN]
  rw [e]
theorem grown_low' {w a b : World} (h : Below w.heap.size w a) (k : a.grownBy b (some (w.heap.size + 1))) : Below w.heap.size w b := h.trans (below_grown k h.size (Nat.le_succ _))
def OrdersR (n : Nat) (c : Nat → Nat) (w : World) (e : Ending) (w' : World) : Prop := ∃ C, e = .returned (.slice (some ⟨C, 0, none⟩) n n) ∧ Blk w' C 3 (cN c n) ∧ Below w.heap.size w w'
set_option maxRecDepth 100000 in
set_option maxHeartbeats 4000000 in
theorem orders_any (n B : Nat) (f : Nat → Bool) (w : World) (h8 : n ≤ 8) (hB : Bools w B (pw n) f) :
    Calls Try.prog 48 #[gV n B (pw n)] w (OrdersR n (ordM f n n 0) w) := by
  have hBl : B < w.heap.size := block_lt_of_cell (hB 0 (pw_pos n))
  have NX := Lib.hid (fun C p1 p3 p4 W (hne : C ≠ p1 ∧ C ≠ p3 ∧ C ≠ p4 ∧ C ≠ B) hW hC => next_any n (pw n) B C p1 p3 p4 f h8 rfl hne n 0 (fun _ => 0) W (mis_zero n) (by omega) (pw_pos n) (fun _ _ => by have := bnd_le (l := n) (by omega); omega) hW hC)
  have hmk := make_cn n (by omega)
  have hres : Hid (cN (fun e => 0 + ordM f n n 0 e) n = cN (ordM f n n 0) n) := Lib.hid (cN_congr fun i _ => by omega)
  unfold OrdR at NX
  rw [hres.out] at NX
  obtain ⟨N, hN⟩ : ∃ N, Hid (pw n = N) := ⟨_, Lib.hid rfl⟩
  rw [hN.out] at hB NX ⊢
  replace hB := Lib.hid hB
  go_enter Try.func48, Try.ntmps48
  have n3 : Blk ((((w.alloc (.cells #[.int .i64 (n : Nat), .slice (some ⟨B, 0, none⟩) N N] 60)).alloc (.cells (cN (fun _ => 0) n) 3)).alloc (.cells #[.slice (some ⟨w.heap.size + 1, 0, none⟩) n n] 22)).alloc (.cells #[nextV w.heap.size (w.heap.size + 1 + 1) (w.heap.size + 1 + 1 + 1)] 83)) (w.heap.size + 1 + 1 + 1) 83 #[nextV w.heap.size (w.heap.size + 1 + 1) (w.heap.size + 1 + 1 + 1)] := by
    have := Blk.new (((w.alloc (.cells #[.int .i64 (n : Nat), .slice (some ⟨B, 0, none⟩) N N] 60)).alloc (.cells (cN (fun _ => 0) n) 3)).alloc (.cells #[.slice (some ⟨w.heap.size + 1, 0, none⟩) n n] 22)) 83 #[nextV w.heap.size (w.heap.size + 1 + 1) (w.heap.size + 1 + 1 + 1)]
    simpa using this
  have n2 : Blk (((w.alloc (.cells #[.int .i64 (n : Nat), .slice (some ⟨B, 0, none⟩) N N] 60)).alloc (.cells (cN (fun _ => 0) n) 3)).alloc (.cells #[.slice (some ⟨w.heap.size + 1, 0, none⟩) n n] 22)) (w.heap.size + 1 + 1) 22 #[.slice (some ⟨w.heap.size + 1, 0, none⟩) n n] := by
    have := Blk.new ((w.alloc (.cells #[.int .i64 (n : Nat), .slice (some ⟨B, 0, none⟩) N N] 60)).alloc (.cells (cN (fun _ => 0) n) 3)) 22 #[.slice (some ⟨w.heap.size + 1, 0, none⟩) n n]
    simpa using this
  have n1 := two_box w #[.int .i64 (n : Nat), .slice (some ⟨B, 0, none⟩) N N] (cN (fun _ => 0) n) 60 3
  have n0 := Blk.new w 60 #[.int .i64 (n : Nat), .slice (some ⟨B, 0, none⟩) N N]
  have hb4 := b4 w (.cells #[.int .i64 (n : Nat), .slice (some ⟨B, 0, none⟩) N N] 60) (.cells (cN (fun _ => 0) n) 3) (.cells #[.slice (some ⟨w.heap.size + 1, 0, none⟩) n n] 22) (.cells #[nextV w.heap.size (w.heap.size + 1 + 1) (w.heap.size + 1 + 1 + 1)] 83)
  have KK := Lib.hid (NX.out (w.heap.size + 1) w.heap.size (w.heap.size + 1 + 1) (w.heap.size + 1 + 1 + 1) _ ⟨by omega, by omega, by omega, by omega⟩ ⟨((n0.alloc _).alloc _).alloc _, n2.alloc _, n3, hB.out.next hb4⟩ ((n1.alloc _).alloc _))
  clear n3 n2 n1 n0
  replace hb4 := Lib.hid hb4
  go_wp2_with (go_at_call 71; refine KK.out.mono ?_; rintro e w2 ⟨rfl, hg2, hC3, hW3⟩; have q0 := hW3.2.1.c 0 rfl; replace hC3 := Lib.hid hC3; replace hW3 := Lib.hid hW3)
  go_ret
  exact ⟨w.heap.size + 1, rfl, hC3.out, grown_low' hb4.out hg2⟩
end Go.Proofs.Ytnnndooagpkgmaa
