/- Layer 8, by the program: day. -/
import Derived.Test.YtniknldeafmgaaaGc
namespace Go.Proofs.Ytniknldeafmgaaa
set_option linter.unusedSimpArgs false
set_option linter.unusedVariables false
open Go Go.RowKit

theorem dr_at (a b : Nat) (g : Nat → Nat) {r : Nat} (h : r < a) : dr a b g (a - r) = if g r < mo b g r then g r + 1 else dr a b g (a - (r + 1)) := by
  rw [show a - r = (a - (r + 1)) + 1 by omega]
  conv => lhs; unfold dr
  rw [show a - 1 - (a - (r + 1)) = r by omega]
/-- The next day, in the rows from the m-th on. -/
def dayT (a b : Nat) (g : Nat → Nat) (m : Nat) : Nat → Nat := fun i => if m ≤ i ∧ i < a then dr a b g (a - i) else 0
theorem dayT_start (a b : Nat) (g : Nat → Nat) : dayT a b g a = fun _ => 0 := by funext i; unfold dayT; rw [if_neg (by omega)]
theorem dayT_end (a b : Nat) (g : Nat → Nat) : dayT a b g 0 = dayF a b g := by funext i; unfold dayT dayF; simp
theorem dayT_step (a b : Nat) (g : Nat → Nat) {r : Nat} (h : r < a) : upf (dayT a b g (r + 1)) r (dr a b g (a - r)) = dayT a b g r := by
  funext i
  unfold upf dayT
  by_cases e : i = r
  · subst e; rw [if_pos rfl, if_pos ⟨Nat.le_refl _, h⟩]
  · rw [if_neg e]
    by_cases h2 : r ≤ i ∧ i < a
    · rw [if_pos h2, if_pos ⟨by omega, h2.2⟩]
    · rw [if_neg h2, if_neg (by omega)]
theorem b3p (w : World) (x y z : Array Value) (s t u : TypeId) (W : World) (hW : W = ((w.alloc (.cells x s)).alloc (.cells y t)).alloc (.cells z u)) :
    Below w.heap.size w W ∧ Blk W w.heap.size s x ∧ Blk W (w.heap.size + 1) t y ∧ Blk W (w.heap.size + 1 + 1) u z := by
  subst hW
  refine ⟨b3 _ _ _ _, ((Blk.new _ _ _).alloc _).alloc _, ?_, ?_⟩
  · have := (Blk.new (w.alloc (.cells x s)) t y).alloc (.cells z u)
    rwa [World.size_alloc] at this
  · have := Blk.new ((w.alloc (.cells x s)).alloc (.cells y t)) u z
    rwa [World.size_alloc, World.size_alloc] at this
theorem nat_int0 : ((0 : Nat) : Int) = 0 := rfl
set_option maxRecDepth 100000 in
set_option maxHeartbeats 2000000 in
theorem day_any (a b : Nat) (g : Nat → Nat) (w : World) (hp : IsP a b g) : Calls Try.prog 47 #[pV a b g] w (Ret (pV a b (dayF a b g)) w) := by
  have h1 := hp.a1
  have h6 := hp.a6
  have hb6 := hp.b6
  have hgb := Lib.hid hp.gb
  have hdl := Lib.hid (dr_le hp)
  obtain ⟨B, k0, k1, k2⟩ := b3p w (pC a b g) zC (pC a b (fun _ => 0)) 66 66 66 _ rfl
  have hN := Lib.hid (fun (r : Nat) (hr : r < 6) w => isNext_any a b g r (g r) w hp hr)
  have hat := Lib.hid (fun r (h : r < a) => dr_at a b g h)
  have hst := Lib.hid (dayT_start a b g)
  have hen := Lib.hid (dayT_end a b g)
  have hsp := Lib.hid (fun r (h : r < a) => dayT_step a b g h)
  replace B := Lib.hid B
  replace k0 := Lib.hid k0
  replace k1 := Lib.hid k1
  replace k2 := Lib.hid k2
  clear hp
  go_enter Try.func47, Try.ntmps47
  go_wp2
  go_loopw [4, 5, 6] (fun p q _ wr => ∃ m : Nat, ∃ y : Int, m ≤ a ∧ p = .int .i64 ((dr a b g (a - m) : Nat) : Int) ∧ q = .int .i64 y ∧ y = (m : Int) - 1 ∧ Blk wr w.heap.size 66 (pC a b g) ∧ Blk wr (w.heap.size + 1) 66 zC ∧ Blk wr (w.heap.size + 1 + 1) 66 (pC a b (dayT a b g m)) ∧ Below w.heap.size w wr) (fun _ q _ _ => (intOf q + 1).toNat)
  case atStart => exact ⟨a, _, Nat.le_refl _, by rw [Nat.sub_self]; rfl, rfl, rfl, k0.out, k1.out, by rw [hst.out]; exact k2.out, B.out⟩
  case round =>
    clear k0 k1 k2 B
    obtain ⟨m, y, hm, rfl, rfl, hy, k0, k1, k2, B⟩ := hrel
    replace B := Lib.hid B
    replace k0 := Lib.hid k0
    replace k1 := Lib.hid k1
    replace k2 := Lib.hid k2
    have hs2 := k2.out.lt
    by_cases hlt : 0 < m
    · obtain ⟨r, rfl⟩ : ∃ r, m = r + 1 := ⟨m - 1, by omega⟩
      obtain rfl : y = (r : Int) := by omega
      clear hy
      have hr6 : (r : Int) < 6 := by omega
      have hr0 : (0 : Int) ≤ (r : Int) := by omega
      have pg := k0.out.pg (i := r) (by omega)
      have j0 := Lib.hid (k0.out.alloc (.cells (qC (r : Int) (g r : Int)) 31))
      have j1 := Lib.hid (k1.out.alloc (.cells (qC (r : Int) (g r : Int)) 31))
      have j2 := Lib.hid (k2.out.alloc (.cells (qC (r : Int) (g r : Int)) 31))
      have j3 := Lib.hid (Blk.new wr 31 (qC (r : Int) (g r : Int)))
      have hB := Lib.hid (B.out.trans ((b1 wr (.cells (qC (r : Int) (g r : Int)) 31)).mono B.out.size))
      go_upto_region 7 with (fail)
      clear k0 k1 k2 B
      have k0 := j0
      have k1 := j1
      have k2 := j2
      have k3 := j3
      have B := hB
      clear j0 j1 j2 j3 hB pg
      generalize (wr.alloc (.cells (qC (r : Int) (g r : Int)) 31)) = W at *
      generalize wr.heap.size = D at *
      obtain ⟨p0, p1, p2, p3, p4, p5, p6, p7⟩ := k0.out.pc
      obtain ⟨q0, q1⟩ := k3.out.qc
      have hg6 := hgb.out r
      by_cases hn : g r < mo b g r
      · have hN' := Lib.hid (fun w => by have := hN.out r (by omega) w; rwa [show decide (nxt b g r (g r)) = true from decide_eq_true ⟨rfl, hn⟩] at this)
        have hv : dr a b g (a - r) = g r + 1 := by rw [hat.out r (by omega), if_pos hn]
        have hsp' := hsp.out r (by omega)
        rw [hv] at hsp'
        have hd := hdl.out (a - (r + 1))
        go_wp2_with (go_at_call 65; refine (hN'.out _).mono ?_; rintro _ w1 ⟨rfl, hw1⟩; replace B := Lib.hid (nextB B.out hw1); replace k0 := Lib.hid (k0.out.ext hw1); replace k1 := Lib.hid (k1.out.ext hw1); replace k2 := k2.out.ext hw1; replace k3 := k3.out.ext hw1; clear p0 p1 p2 p3 p4 p5 p6 p7 q0 q1 hw1; obtain ⟨q0, q1⟩ := k3.qc; have f2 := k2.fr; have pg := k2.pg (i := r) (by omega); have k0' := Lib.hid (k0.out.other (B' := w.heap.size + 1 + 1) (i := 2 + r) (by omega) (.int .i64 ((g r + 1 : Nat) : Int))); have k1' := Lib.hid (k1.out.other (B' := w.heap.size + 1 + 1) (i := 2 + r) (by omega) (.int .i64 ((g r + 1 : Nat) : Int))); have k2' := Lib.hid (hsp' ▸ k2.setP (i := r) (by omega) (g r + 1)); have B' := Lib.hid (B.out.setCell (p := ⟨w.heap.size + 1 + 1, 2 + r, none⟩) (by simp; omega) (.int .i64 ((g r + 1 : Nat) : Int))); replace k2 := Lib.hid k2; replace k3 := Lib.hid k3)
        go_roundw
        case rel => exact ⟨r, (r : Int) - 1, by omega, congrArg (Value.int .i64) (by omega), rfl, rfl, k0'.out, k1'.out, k2'.out, B'.out⟩
        case measure => simp [intOf]
      · have hN' := Lib.hid (fun w => by have := hN.out r (by omega) w; rwa [show decide (nxt b g r (g r)) = false from decide_eq_false (fun h => hn h.2)] at this)
        have hv : dr a b g (a - r) = dr a b g (a - (r + 1)) := by rw [hat.out r (by omega), if_neg hn]
        have hsp' := hsp.out r (by omega)
        rw [hv] at hsp'
        have hd := hdl.out (a - (r + 1))
        go_wp2_with (go_at_call 65; refine (hN'.out _).mono ?_; rintro _ w1 ⟨rfl, hw1⟩; replace B := Lib.hid (nextB B.out hw1); replace k0 := Lib.hid (k0.out.ext hw1); replace k1 := Lib.hid (k1.out.ext hw1); replace k2 := k2.out.ext hw1; replace k3 := k3.out.ext hw1; clear p0 p1 p2 p3 p4 p5 p6 p7 q0 q1 hw1; obtain ⟨q0, q1⟩ := k3.qc; have f2 := k2.fr; have pg := k2.pg (i := r) (by omega); have k0' := Lib.hid (k0.out.other (B' := w.heap.size + 1 + 1) (i := 2 + r) (by omega) (.int .i64 ((dr a b g (a - (r + 1)) : Nat) : Int))); have k1' := Lib.hid (k1.out.other (B' := w.heap.size + 1 + 1) (i := 2 + r) (by omega) (.int .i64 ((dr a b g (a - (r + 1)) : Nat) : Int))); have k2' := Lib.hid (hsp' ▸ k2.setP (i := r) (by omega) (dr a b g (a - (r + 1)))); have B' := Lib.hid (B.out.setCell (p := ⟨w.heap.size + 1 + 1, 2 + r, none⟩) (by simp; omega) (.int .i64 ((dr a b g (a - (r + 1)) : Nat) : Int))); replace k2 := Lib.hid k2; replace k3 := Lib.hid k3)
        go_roundw
        case rel => exact ⟨r, (r : Int) - 1, by omega, congrArg (Value.int .i64) (by omega), rfl, rfl, k0'.out, k1'.out, k2'.out, B'.out⟩
        case measure => simp [intOf]
    · obtain rfl : m = 0 := by omega
      have hy' : y < 0 := by omega
      obtain ⟨p0, p1, p2, p3, p4, p5, p6, p7⟩ := k2.out.pc
      rw [hen.out] at p2 p3 p4 p5 p6 p7
      have l1 := k1.out
      obtain ⟨r0, r1, r2, r3, r4, r5, r6, r7⟩ := l1.zc
      have f1 := l1.fr
      have X2 := Lib.hid (end_put (a := a) (b := b) (g := dayF a b g) (w := w) (D := w.heap.size + 1) (by omega) B.out l1)
      clear l1 k0 k1 k2
      go_wp2
      exact bodyPost_ret (results_p rfl X2.out.1 rfl) rfl (Ret.mk rfl X2.out.2)
end Go.Proofs.Ytniknldeafmgaaa
