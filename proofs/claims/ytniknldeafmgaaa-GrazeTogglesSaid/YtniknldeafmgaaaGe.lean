/- Layer 8, by the program: back. -/
import Derived.Test.YtniknldeafmgaaaGd
namespace Go.Proofs.Ytniknldeafmgaaa
set_option linter.unusedSimpArgs false
set_option linter.unusedVariables false
open Go Go.RowKit

theorem bk_at (a b : Nat) (g : Nat → Nat) (r : Nat) : bk a b g (r + 1) = if lea a g r + 1 ≤ g r then g r - 1 else bk a b g r := rfl
/-- The day before, in the rows below the n-th. -/
def bakT (a b : Nat) (g : Nat → Nat) (n : Nat) : Nat → Nat := fun i => if i < n then bk a b g (i + 1) else 0
theorem bakT_start (a b : Nat) (g : Nat → Nat) : bakT a b g 0 = fun _ => 0 := by funext i; unfold bakT; rw [if_neg (by omega)]
theorem bakT_step (a b : Nat) (g : Nat → Nat) (r : Nat) : upf (bakT a b g r) r (bk a b g (r + 1)) = bakT a b g (r + 1) := by
  funext i
  unfold upf bakT
  by_cases e : i = r
  · subst e; rw [if_pos rfl, if_pos (by omega)]
  · rw [if_neg e]
    by_cases h2 : i < r
    · rw [if_pos h2, if_pos (by omega)]
    · rw [if_neg h2, if_neg (by omega)]
set_option maxRecDepth 100000 in
set_option maxHeartbeats 2000000 in
theorem back_any (a b : Nat) (g : Nat → Nat) (w : World) (hp : IsP a b g) : Calls Try.prog 50 #[pV a b g] w (Ret (pV a b (bakF a b g)) w) := by
  have h1 := hp.a1
  have h6 := hp.a6
  have hb6 := hp.b6
  have hgb := Lib.hid hp.gb
  have hdl := Lib.hid (bk_le hp)
  obtain ⟨B, k0, k1, k2⟩ := b3p w (pC a b g) zC (pC a b (fun _ => 0)) 66 66 66 _ rfl
  have hN := Lib.hid (fun (r : Nat) (hr : r < a) w => isEnd_any a b g r ((g r : Int) - 1) w hp hr (by omega))
  have hat := Lib.hid (fun r => bk_at a b g r)
  have hst := Lib.hid (bakT_start a b g)
  have hen : Hid (bakT a b g a = bakF a b g) := Lib.hid rfl
  have hsp := Lib.hid (fun r => bakT_step a b g r)
  replace B := Lib.hid B
  replace k0 := Lib.hid k0
  replace k1 := Lib.hid k1
  replace k2 := Lib.hid k2
  clear hp
  go_enter Try.func50, Try.ntmps50
  go_wp2
  go_loopw [4, 5, 6, 16] (fun p _ _ q wr => ∃ r : Nat, r ≤ a ∧ p = .int .i64 ((bk a b g r : Nat) : Int) ∧ q = .int .i64 (r : Int) ∧ Blk wr w.heap.size 66 (pC a b g) ∧ Blk wr (w.heap.size + 1) 66 zC ∧ Blk wr (w.heap.size + 1 + 1) 66 (pC a b (bakT a b g r)) ∧ Below w.heap.size w wr) (fun _ _ _ q _ => a - (intOf q).toNat)
  case atStart => exact ⟨0, Nat.zero_le _, rfl, rfl, k0.out, k1.out, by rw [hst.out]; exact k2.out, B.out⟩
  case round =>
    clear k0 k1 k2 B
    obtain ⟨r, hm, rfl, rfl, k0, k1, k2, B⟩ := hrel
    replace B := Lib.hid B
    replace k0 := Lib.hid k0
    replace k1 := Lib.hid k1
    replace k2 := Lib.hid k2
    have hs2 := k2.out.lt
    by_cases hlt : r < a
    · have hlt' : (r : Int) < (a : Int) := by omega
      have hr6 : (r : Int) < 6 := by omega
      have pg := k0.out.pg (i := r) (by omega)
      have hg6 := hgb.out r
      have j0 := Lib.hid (k0.out.alloc (.cells (qC (r : Int) ((g r : Int) - 1)) 31))
      have j1 := Lib.hid (k1.out.alloc (.cells (qC (r : Int) ((g r : Int) - 1)) 31))
      have j2 := Lib.hid (k2.out.alloc (.cells (qC (r : Int) ((g r : Int) - 1)) 31))
      have j3 := Lib.hid (Blk.new wr 31 (qC (r : Int) ((g r : Int) - 1)))
      have hB := Lib.hid (B.out.trans ((b1 wr (.cells (qC (r : Int) ((g r : Int) - 1)) 31)).mono B.out.size))
      go_upto_region 7 with (fail)
      clear k0 k1 k2 B
      have k0 := j0
      have k1 := j1
      have k2 := j2
      have k3 := j3
      have B := hB
      clear j0 j1 j2 j3 hB pg
      generalize (wr.alloc (.cells (qC (r : Int) ((g r : Int) - 1)) 31)) = W at *
      generalize wr.heap.size = D at *
      obtain ⟨p0, p1, p2, p3, p4, p5, p6, p7⟩ := k0.out.pc
      obtain ⟨q0, q1⟩ := k3.out.qc
      by_cases hn : lea a g r + 1 ≤ g r
      · have hN' := Lib.hid (fun w => by have := hN.out r (by omega) w; rwa [show decide (EndP a g r ((g r : Int) - 1)) = true from decide_eq_true (by unfold EndP; omega)] at this)
        have hv : bk a b g (r + 1) = g r - 1 := by rw [hat.out r, if_pos hn]
        have hsp' := hsp.out r
        rw [hv] at hsp'
        have hd := hdl.out r
        have hvi : Hid ((g r : Int) - 1 = ((g r - 1 : Nat) : Int)) := Lib.hid (by omega)
        go_wp2_with (go_at_call 64; (with_reducible refine (hN'.out _).mono ?_); rintro _ w1 ⟨rfl, hw1⟩; replace B := Lib.hid (nextB B.out hw1); replace k0 := Lib.hid (k0.out.ext hw1); replace k1 := Lib.hid (k1.out.ext hw1); replace k2 := k2.out.ext hw1; replace k3 := k3.out.ext hw1; clear p0 p1 p2 p3 p4 p5 p6 p7 q0 q1 hw1; obtain ⟨q0, q1⟩ := k3.qc; have f2 := k2.fr; have pg := k2.pg (i := r) (by omega); have k0' := Lib.hid (k0.out.other (B' := w.heap.size + 1 + 1) (i := 2 + r) (by omega) (.int .i64 ((g r : Int) - 1))); have k1' := Lib.hid (k1.out.other (B' := w.heap.size + 1 + 1) (i := 2 + r) (by omega) (.int .i64 ((g r : Int) - 1))); have k2' := Lib.hid (hsp' ▸ (hvi.out ▸ k2.setP (i := r) (by omega) (g r - 1))); have B' := Lib.hid (B.out.setCell (p := ⟨w.heap.size + 1 + 1, 2 + r, none⟩) (by simp; omega) (.int .i64 ((g r : Int) - 1))); replace k2 := Lib.hid k2; replace k3 := Lib.hid k3)
        go_roundw
        case rel => exact ⟨r + 1, by omega, congrArg (Value.int .i64) (by have := hvi.out; omega), by go_num, k0'.out, k1'.out, k2'.out, B'.out⟩
        case measure => simp [intOf]; omega
      · have hN' := Lib.hid (fun w => by have := hN.out r (by omega) w; rwa [show decide (EndP a g r ((g r : Int) - 1)) = false from decide_eq_false (by unfold EndP; omega)] at this)
        have hv : bk a b g (r + 1) = bk a b g r := by rw [hat.out r, if_neg hn]
        have hsp' := hsp.out r
        rw [hv] at hsp'
        have hd := hdl.out r
        have hvi : Hid (((bk a b g r : Nat) : Int) = ((bk a b g r : Nat) : Int)) := Lib.hid (by omega)
        go_wp2_with (go_at_call 64; (with_reducible refine (hN'.out _).mono ?_); rintro _ w1 ⟨rfl, hw1⟩; replace B := Lib.hid (nextB B.out hw1); replace k0 := Lib.hid (k0.out.ext hw1); replace k1 := Lib.hid (k1.out.ext hw1); replace k2 := k2.out.ext hw1; replace k3 := k3.out.ext hw1; clear p0 p1 p2 p3 p4 p5 p6 p7 q0 q1 hw1; obtain ⟨q0, q1⟩ := k3.qc; have f2 := k2.fr; have pg := k2.pg (i := r) (by omega); have k0' := Lib.hid (k0.out.other (B' := w.heap.size + 1 + 1) (i := 2 + r) (by omega) (.int .i64 (((bk a b g r : Nat) : Int)))); have k1' := Lib.hid (k1.out.other (B' := w.heap.size + 1 + 1) (i := 2 + r) (by omega) (.int .i64 (((bk a b g r : Nat) : Int)))); have k2' := Lib.hid (hsp' ▸ (hvi.out ▸ k2.setP (i := r) (by omega) (bk a b g r))); have B' := Lib.hid (B.out.setCell (p := ⟨w.heap.size + 1 + 1, 2 + r, none⟩) (by simp; omega) (.int .i64 (((bk a b g r : Nat) : Int)))); replace k2 := Lib.hid k2; replace k3 := Lib.hid k3)
        go_roundw
        case rel => exact ⟨r + 1, by omega, congrArg (Value.int .i64) (by have := hvi.out; omega), by go_num, k0'.out, k1'.out, k2'.out, B'.out⟩
        case measure => simp [intOf]; omega
    · obtain rfl : r = a := by omega
      obtain ⟨p0, p1, p2, p3, p4, p5, p6, p7⟩ := k2.out.pc
      rw [hen.out] at p2 p3 p4 p5 p6 p7
      have l1 := k1.out
      obtain ⟨r0, r1, r2, r3, r4, r5, r6, r7⟩ := l1.zc
      have f1 := l1.fr
      have X2 := Lib.hid (end_put (a := r) (b := b) (g := bakF r b g) (w := w) (D := w.heap.size + 1) (by omega) B.out l1)
      clear l1 k0 k1 k2
      go_wp2
      exact bodyPost_ret (results_p rfl X2.out.1 rfl) rfl (Ret.mk rfl X2.out.2)
end Go.Proofs.Ytniknldeafmgaaa
