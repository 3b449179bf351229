/- Layer 8, by the program: swept, Sweep. -/
import Derived.Test.YtniknldeafmgaaaGg
namespace Go.Proofs.Ytniknldeafmgaaa
set_option linter.unusedSimpArgs false
set_option linter.unusedVariables false
open Go Go.RowKit

/-- The state behind the turns of the plots k, k + d in the rows below the k-th. -/
def swR (a b : Nat) (g : Nat → Nat) (d : Int) : Nat → Nat → Nat
  | 0 => g
  | k + 1 => if HasP a b (k : Int) ((k : Int) + d) then tnf a b (swR a b g d k) k ((k : Int) + d).toNat else swR a b g d k
/-- The state behind the first n of the lines of plots. -/
def swF (a b : Nat) (g : Nat → Nat) : Nat → Nat → Nat
  | 0 => g
  | n + 1 => swR a b (swF a b g n) (1 - (a : Int) + (n : Int)) a
/-- The state behind a sweep. -/
def sweF (a b : Nat) (g : Nat → Nat) : Nat → Nat := swF a b g (a + b - 1)
theorem swR_P {a b : Nat} {g : Nat → Nat} (h : IsP a b g) (d : Int) : ∀ k, IsP a b (swR a b g d k)
  | 0 => h
  | k + 1 => by
    unfold swR
    split
    · exact tnf_P (swR_P h d k) _ _
    · exact swR_P h d k
theorem swF_P {a b : Nat} {g : Nat → Nat} (h : IsP a b g) : ∀ n, IsP a b (swF a b g n)
  | 0 => h
  | n + 1 => by
    unfold swF
    exact swR_P (swF_P h n) _ _
theorem sweF_P {a b : Nat} {g : Nat → Nat} (h : IsP a b g) : IsP a b (sweF a b g) := swF_P h _
theorem swR_S {a b : Nat} {g : Nat → Nat} (h : IsS a b g) (d : Int) : ∀ k, k ≤ a → IsS a b (swR a b g d k)
  | 0, _ => h
  | k + 1, hk => by
    unfold swR
    split
    · exact tnf_S (swR_S h d k (by omega)) (by omega)
    · exact swR_S h d k (by omega)
theorem swF_S {a b : Nat} {g : Nat → Nat} (h : IsS a b g) : ∀ n, IsS a b (swF a b g n)
  | 0 => h
  | n + 1 => by
    unfold swF
    exact swR_S (swF_S h n) _ _ (Nat.le_refl _)
theorem sweF_S {a b : Nat} {g : Nat → Nat} (h : IsS a b g) : IsS a b (sweF a b g) := swF_S h _
theorem swR_yes {a b : Nat} {g : Nat → Nat} {d : Int} {k : Nat} (h : HasP a b (k : Int) ((k : Int) + d)) : swR a b g d (k + 1) = tnf a b (swR a b g d k) k ((k : Int) + d).toNat := if_pos h
theorem swR_no {a b : Nat} {g : Nat → Nat} {d : Int} {k : Nat} (h : ¬ HasP a b (k : Int) ((k : Int) + d)) : swR a b g d (k + 1) = swR a b g d k := if_neg h
theorem Blk.put8 {W : World} {B B' a b : Nat} {g : Nat → Nat} {t : TypeId} {cs : Array Value} (h : Blk W B' t cs) (hne : B' ≠ B) : Blk (put8 W B a b g) B' t cs :=
  ((grown_put8 W B a b g).block B' h.lt (by simp; omega)).trans h
theorem Blk.freeze {W : World} {B : Nat} {t : TypeId} {cs : Array Value} (h : Blk W B t cs) : B < W.heap.size := h.lt
set_option maxRecDepth 100000 in
set_option maxHeartbeats 4000000 in
theorem swept_any (a b : Nat) (g : Nat → Nat) (w : World) (hp : IsP a b g) : Calls Try.prog 67 #[pV a b g] w (Ret (pV a b (sweF a b g)) w) := by
  have h1 := hp.a1
  have h6 := hp.a6
  have hb1 := hp.b1
  have hb6 := hp.b6
  have k0 := (Blk.new w 66 (pC a b g)).alloc (.cells zC 66)
  have k1 := Blk.new (w.alloc (.cells (pC a b g) 66)) 66 zC
  rw [World.size_alloc] at k1
  have B := Lib.hid (b2 w (.cells (pC a b g) 66) (.cells zC 66))
  have hPf := Lib.hid (swF_P hp)
  have hPr := Lib.hid (fun d n k => swR_P (d := d) (swF_P hp n) k)
  replace k0 := Lib.hid k0
  replace k1 := Lib.hid k1
  clear hp
  go_enter Try.func67, Try.ntmps67
  go_wp2
  go_loopw [3, 4, 5, 17] (fun p _ _ _ wr => ∃ n : Nat, ∃ y : Int, n ≤ a + b - 1 ∧ p = .int .i64 y ∧ y = 1 - (a : Int) + (n : Int) ∧ Blk wr w.heap.size 66 (pC a b (swF a b g n)) ∧ Blk wr (w.heap.size + 1) 66 zC ∧ Below w.heap.size w wr) (fun p _ _ _ _ => ((b : Int) - intOf p).toNat)
  case atStart => exact ⟨0, _, Nat.zero_le _, rfl, by omega, k0.out, k1.out, B.out⟩
  case round =>
    clear k0 k1 B
    obtain ⟨n, y, hn, rfl, hy, k0, k1, B⟩ := hrel
    replace B := Lib.hid B
    obtain ⟨p0, p1, p2, p3, p4, p5, p6, p7⟩ := k0.pc
    by_cases hlt : n < a + b - 1
    · have hyb : y < (b : Int) := by omega
      have hy1 : -5 ≤ y := by omega
      have hs : Hid (swF a b g (n + 1) = swR a b (swF a b g n) y a) := Lib.hid (by rw [hy]; rfl)
      have hPr' := Lib.hid (fun k => hPr.out y n k)
      replace hy := Lib.hid hy
      replace k0 := Lib.hid k0
      replace k1 := Lib.hid k1
      clear hPr hPf
      obtain ⟨f, hf⟩ : ∃ f, Hid (swF a b g n = f) := ⟨_, Lib.hid rfl⟩
      rw [hf.out] at k0 p2 p3 p4 p5 p6 p7 hPr' hs
      go_wp2
      clear p0 p1 p2 p3 p4 p5 p6 p7
      go_loopw [4, 5, 17] (fun _ _ q wr => ∃ k : Nat, k ≤ a ∧ q = .int .i64 (k : Int) ∧ Blk wr w.heap.size 66 (pC a b (swR a b f y k)) ∧ Blk wr (w.heap.size + 1) 66 zC ∧ Below w.heap.size w wr) (fun _ _ q _ => a - (intOf q).toNat)
      case atStart => exact ⟨0, Nat.zero_le _, rfl, k0.out, k1.out, B.out⟩
      case round =>
        clear k0 k1 B
        obtain ⟨k, hk, rfl, k0, k1, B⟩ := hrel
        replace B := Lib.hid B
        replace k0 := Lib.hid k0
        replace k1 := Lib.hid k1
        have hs2 := k1.out.lt
        by_cases hka : k < a
        · have hka' : (k : Int) < (a : Int) := by omega
          have hk6 : (k : Int) < 6 := by omega
          have hP := Lib.hid (hPr'.out k)
          have hP' := Lib.hid (hPr'.out (k + 1))
          have j0 := Lib.hid (k0.out.alloc (.cells (qC (k : Int) ((k : Int) + y)) 31))
          have j1 := Lib.hid (k1.out.alloc (.cells (qC (k : Int) ((k : Int) + y)) 31))
          have j3 := Lib.hid (Blk.new wr 31 (qC (k : Int) ((k : Int) + y)))
          have hB := Lib.hid (B.out.trans ((b1 wr (.cells (qC (k : Int) ((k : Int) + y)) 31)).mono B.out.size))
          go_upto_region 8 with (fail)
          clear k0 k1 B
          have k0 := j0
          have k1 := j1
          have k3 := j3
          have B := hB
          clear j0 j1 j3 hB
          generalize (wr.alloc (.cells (qC (k : Int) ((k : Int) + y)) 31)) = W at *
          generalize wr.heap.size = D at *
          have hyes := Lib.hid (@swR_yes a b f y k)
          have hno := Lib.hid (@swR_no a b f y k)
          generalize hF : swR a b f y k = F at *
          replace hF := Lib.hid hF
          obtain ⟨p0, p1, p2, p3, p4, p5, p6, p7⟩ := k0.out.pc
          obtain ⟨q0, q1⟩ := k3.out.qc
          by_cases hH : HasP a b (k : Int) ((k : Int) + y)
          · have hC := Lib.hid (fun w => by have := has_any a b F (k : Int) ((k : Int) + y) w; rwa [decide_eq_true hH] at this)
            have e := Lib.hid (hyes.out hH)
            obtain ⟨J, hJ⟩ : ∃ J : Nat, Hid ((k : Int) + y = (J : Int)) := ⟨((k : Int) + y).toNat, Lib.hid (by unfold HasP at hH; omega)⟩
            have hT := Lib.hid (fun w => by have := turned_any a b F k J w hP.out hka; rwa [← hJ.out] at this)
            have eJ : ((k : Int) + y).toNat = J := by rw [hJ.out]; rfl
            have e := e.out
            rw [eJ] at e
            rw [e] at hP'
            replace e := Lib.hid e
            clear eJ hH hyes hno
            go_upto_region 9 with (go_at_call 58; (with_reducible refine (hC.out _).mono ?_); rintro _ w1 ⟨rfl, hw1⟩)
            replace B := Lib.hid (nextB B.out hw1)
            replace k0 := k0.out.ext hw1
            replace k1 := k1.out.ext hw1
            replace k3 := k3.out.ext hw1
            clear p0 p1 p2 p3 p4 p5 p6 p7 q0 q1 hw1
            obtain ⟨p0, p1, p2, p3, p4, p5, p6, p7⟩ := k0.pc
            obtain ⟨q0, q1⟩ := k3.qc
            go_wp2_with (go_at_call 59; (with_reducible refine (hT.out _).mono ?_); rintro _ w2 ⟨rfl, hw2⟩; replace B := Lib.hid (nextB B.out hw2); replace k0 := k0.ext hw2; replace k1 := k1.ext hw2; clear p0 p1 p2 p3 p4 p5 p6 p7 q0 q1 k3; obtain ⟨p0, p1, p2, p3, p4, p5, p6, p7⟩ := k0.pc; have f0 := k0.fr; have m0 := Lib.hid (blk_set8 k0 a b (tnf a b F k J)); have m1 := Lib.hid (k1.put8 (B := w.heap.size) (a := a) (b := b) (g := tnf a b F k J) (by omega)); have mB := Lib.hid (B.out.trans (below_grown (grown_put8 w2 w.heap.size a b (tnf a b F k J)) B.out.size (Nat.le_refl _))); clear k0 k1 hw2)
            go_roundw
            case rel => exact ⟨k + 1, by omega, by go_num, by rw [e.out]; exact m0.out, m1.out, mB.out⟩
            case measure => simp [intOf]; omega
          · have hC := Lib.hid (fun w => by have := has_any a b F (k : Int) ((k : Int) + y) w; rwa [decide_eq_false hH] at this)
            have e := Lib.hid (hno.out hH)
            clear hH hyes hno
            go_wp2_with (go_at_call 58; (with_reducible refine (hC.out _).mono ?_); rintro _ w1 ⟨rfl, hw1⟩)
            have mB := Lib.hid (nextB B.out hw1)
            have m0 := Lib.hid (k0.out.ext hw1)
            have m1 := Lib.hid (k1.out.ext hw1)
            clear p0 p1 p2 p3 p4 p5 p6 p7 q0 q1 hw1 k0 k1 k3
            go_roundw
            case rel => exact ⟨k + 1, by omega, by go_num, by rw [e.out]; exact m0.out, m1.out, mB.out⟩
            case measure => simp [intOf]; omega
        · have hka' : (a : Int) ≤ (k : Int) := by omega
          have ek : Hid (k = a) := Lib.hid (by omega)
          go_wp2
          go_roundw
          case rel => exact ⟨n + 1, y + 1, by omega, rfl, by have := hy.out; omega, by have := k0.out; rw [ek.out] at this; rw [hs.out]; exact this, k1.out, B.out⟩
          case measure => simp [intOf]; omega
    · have hyb : (b : Int) ≤ y := by omega
      have ek : Hid (n = a + b - 1) := Lib.hid (by omega)
      rw [ek.out] at p2 p3 p4 p5 p6 p7
      obtain ⟨r0, r1, r2, r3, r4, r5, r6, r7⟩ := k1.zc
      have f1 := k1.fr
      have X2 := Lib.hid (end_put (a := a) (b := b) (g := swF a b g (a + b - 1)) (w := w) (D := w.heap.size + 1) (by omega) B.out k1)
      have hsw : Hid (sweF a b g = swF a b g (a + b - 1)) := Lib.hid rfl
      clear k0 k1 hy ek hn hlt
      generalize swF a b g (a + b - 1) = h at *
      go_wp2
      exact bodyPost_ret (results_p rfl X2.out.1 rfl) rfl (Ret.mk (by rw [hsw.out]) X2.out.2)
theorem entersSwept (args : Array Value) (W : World) : (callFunc 67 args).run Try.prog W = .ok (.enter 67 args) W := by go_simp
theorem Sweep_yes (a b : Nat) (g : Nat → Nat) (ad : Option Addr) (c : Nat) (w : World) (h : IsS a b g) (hI : Ints w ad (stL a g)) :
    Calls Try.prog 32 #[.int .i64 (a : Int), .int .i64 (b : Int), .slice ad a c] w (CopyE (stL a (sweF a b g)) w) := by
  have hC := changed_yes a b g (sweF a b g) 67 #[] ad c w h (sweF_P h.p) hI entersSwept (fun W _ => swept_any a b g W h.p)
  clear h hI
  go_enter Try.func32, Try.ntmps32
  go_wp2_with (go_at_call 46; refine hC.mono ?_; rintro _ w1 ⟨G, c1, rfl, hc1, hG, hcell, hw1⟩)
  go_ret2
  exact ⟨G, c1, rfl, hc1, hG, hcell, hw1⟩
theorem Sweep_no (a b : Int) (xs : List Int) (ad : Option Addr) (n c : Nat) (w : World) (hI : Ints w ad xs) (hl : xs.length = n) (h : ¬ StP a b xs) :
    Calls Try.prog 32 #[.int .i64 a, .int .i64 b, .slice ad n c] w (ErrL 2 w) := by
  have hC := fun fv => changed_no a b xs ad n c fv w hI hl h
  clear h hI hl
  go_enter Try.func32, Try.ntmps32
  go_wp2_with (go_at_call 46; refine (hC _).mono ?_; rintro _ w1 ⟨rfl, hw1⟩)
  go_ret2
  exact ⟨rfl, hw1⟩
end Go.Proofs.Ytniknldeafmgaaa
