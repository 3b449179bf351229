/- Layer 3, by the program: the recursion over all orders. -/
import Derived.Test.YtnnndooagpkgmaaVw
namespace Go.Proofs.Ytnnndooagpkgmaa
open Go Go.RowKit

theorem enters71 (args : Array Value) (W : World) : (callFunc 71 args).run Try.prog W = .ok (.enter 71 args) W := by go_simp
theorem brM_le (f : Nat → Bool) (n : Nat) (hn : n ≤ 8) {l : Nat} (hl : l ≤ 7) (b e d : Nat) : brM f n l b e d ≤ bnd l := by
  unfold brM
  have h1 := ordM_le f n hn l (by omega) (b + pw d) e
  have h2 := fac_le (k := l) (by omega)
  have h3 : 1 ≤ 8 ^ l := Nat.pow_pos (by omega)
  have h4 : 40320 ≤ bnd l := by unfold bnd; omega
  split
  · exact Nat.zero_le _
  · split
    · split <;> omega
    · exact h1
/-- Nothing was returned, and the counts are these. -/
def OrdR (n N B C p1 p3 p4 : Nat) (f : Nat → Bool) (c : Nat → Nat) (w : World) (e : Ending) (w' : World) : Prop :=
  e = .returned (.tuple #[]) ∧ w.grownBy w' (some C) ∧ Blk w' C 3 (cN c n) ∧ OrdW n N B C p1 p3 p4 f w'
def OrdIn (n N B C p1 p3 p4 : Nat) (f : Nat → Bool) (c : Nat → Nat → Nat) (w : World) (i : Value) (wr : World) : Prop :=
  ∃ k : Nat, k ≤ n ∧ i = .int .i64 k ∧ w.grownBy wr (some C) ∧ Blk wr C 3 (cN (c k) n) ∧ OrdW n N B C p1 p3 p4 f wr
set_option maxRecDepth 100000 in
set_option maxHeartbeats 8000000 in
theorem next_any (n N B C p1 p3 p4 : Nat) (f : Nat → Bool) (h8 : n ≤ 8) (hN : pw n = N) (hne : C ≠ p1 ∧ C ≠ p3 ∧ C ≠ p4 ∧ C ≠ B) :
    ∀ (l b : Nat) (c : Nat → Nat) (w : World), mis b n = l → l ≤ 8 → b < N → (∀ i, i < n → c i + bnd l ≤ 2000000000000000) → OrdW n N B C p1 p3 p4 f w → Blk w C 3 (cN c n) →
    Calls Try.prog 71 #[.int .i64 (b : Nat), .int .i64 (l : Nat), .pointer (some ⟨p1, 0, none⟩), .pointer (some ⟨p3, 0, none⟩), .pointer (some ⟨p4, 0, none⟩)] w (OrdR n N B C p1 p3 p4 f (fun e => c e + ordM f n l b e) w) := by
  have hp8 : N ≤ 256 := by have := pw_mono h8; rw [hN] at this; simpa [pw] using this
  have hpl := Lib.hid (fun d (hd : d < n) => (show pw d < N by rw [← hN]; exact pw_lt hd))
  have hadd := Lib.hid (fun b d (hb : b < N) (hd : d < n) (h : b.testBit d = false) => (show b + pw d < N by rw [← hN] at hb ⊢; exact add_lt hb hd h))
  replace hN := Lib.hid hN
  replace hne := Lib.hid hne
  intro l
  induction l with
  | zero =>
    intro b c w hm _ hb hc hW hC
    have hset := Lib.hid (fun k (hk : k < n) => (show b.testBit k = true by
      cases hbk : b.testBit k
      · have := mis_pos hk hbk; omega
      · rfl))
    have hres : Hid (cN (fun e => c e + ordM f n 0 b e) n = cN c n) := Lib.hid (cN_congr fun i _ => by simp [ordM])
    unfold OrdR
    rw [hres.out]
    clear hm hc
    have g0 := hW.1.c 0 rfl
    replace hW := Lib.hid hW
    replace hC := Lib.hid hC
    go_enter Try.func71, Try.ntmps71
    go_wp2
    go_loop [7, 8, 11] (fun _ _ i => ∃ k : Nat, k ≤ n ∧ i = .int .i64 k) (fun _ _ i => n - (intOf i).toNat)
    case atStart => exact ⟨0, by omega, rfl⟩
    case round =>
      obtain ⟨k, hk, rfl⟩ := hrel
      by_cases hlt : k < n
      · have hki : (k : Int) < (n : Int) := by omega
        have sh := wrap_shl (k := k) (by omega)
        have hpk := hpl.out k hlt
        have orr := i64_or_nat b (pw k) (by omega) (by omega)
        rw [or_eq_self (hset.out k hlt)] at orr
        have heq : ((b : Int) == (b : Int)) = true := by simp
        go_wp2
        go_round
        case rel => exact ⟨k + 1, by omega, by go_num⟩
        case measure => simp [intOf]; omega
      · obtain rfl : k = n := by omega
        go_wp2
        go_end0
        exact ⟨rfl, ⟨rfl, rfl, rfl, Nat.le_refl _, fun _ _ _ => rfl⟩, hC.out, hW.out⟩
  | succ l ih =>
    intro b c w hm hl hb hc hW hC
    have hF := Lib.hid (fun k W (h : k ≤ 8) => factorial_any k W h)
    obtain ⟨cs, hcs⟩ : ∃ cs : Nat → Nat → Nat, Hid (∀ k e, cs k e = c e + sumTo (brM f n l b e) k) := ⟨_, Lib.hid fun _ _ => rfl⟩
    have hstep := Lib.hid (fun k e => (show cs (k + 1) e = cs k e + brM f n l b e k by rw [hcs.out, hcs.out, sumTo]; omega))
    have hb7 : bnd (l + 1) = 8 * bnd l := by unfold bnd; rw [Nat.pow_succ]; omega
    have hcb := Lib.hid (fun k e (hk : k < n) (he : e < n) => (show cs k e + bnd l ≤ 2000000000000000 by
      have h1 := sumTo_le (g := brM f n l b e) (M := bnd l) (fun d => brM_le f n h8 (by omega) b e d) k
      have h2 := hc e he
      have h3 : k * bnd l ≤ 7 * bnd l := Nat.mul_le_mul_right _ (by omega)
      rw [hcs.out]
      omega))
    have hres : Hid (cN (fun e => c e + ordM f n (l + 1) b e) n = cN (cs n) n) := Lib.hid (cN_congr fun i _ => by rw [hcs.out, ordM_succ])
    have h0 : Hid (cN c n = cN (cs 0) n) := Lib.hid (cN_congr fun i _ => by rw [hcs.out]; rfl)
    have IH := Lib.hid (fun k W (hk : k < n) (hbk : b.testBit k = false) h1 h2 => ih (b + pw k) (cs k) W (by have := mis_add hk hbk; omega) (by omega) (hadd.out b k hb hk hbk) (fun i hi => hcb.out k i hk hi) h1 h2)
    unfold OrdR
    rw [hres.out]
    rw [h0.out] at hC
    clear hm hc ih hb7
    replace hW := Lib.hid hW
    replace hC := Lib.hid hC
    have hbr := Lib.hid (fun e k => (show brM f n l b e k = if b.testBit k then 0 else if f (b + pw k) then (if k = e then fac l else 0) else ordM f n l (b + pw k) e from rfl))
    have g0 := hW.out.1.c 0 rfl
    go_enter Try.func71, Try.ntmps71
    go_wp2
    clear g0
    go_loopw [7, 8, 11, 23, 27] (fun _ _ i _ _ wr => OrdIn n N B C p1 p3 p4 f cs w i wr) (fun _ _ i _ _ _ => n - (intOf i).toNat)
    case atStart => exact ⟨0, by omega, rfl, ⟨rfl, rfl, rfl, Nat.le_refl _, fun _ _ _ => rfl⟩, hC.out, hW.out⟩
    case round =>
      obtain ⟨k, hk, rfl, hgr, hC2, hW2⟩ := hrel
      by_cases hlt : k < n
      · have hki : (k : Int) < (n : Int) := by omega
        have sh := wrap_shl (k := k) (by omega)
        have hpk := hpl.out k hlt
        have orr := i64_or_nat b (pw k) (by omega) (by omega)
        cases hbk : b.testBit k
        · rw [or_eq_add hbk] at orr
          have hpos := pw_pos k
          have hneq : (((b + pw k : Nat) : Int) == (b : Int)) = false := by rw [beq_eq_false_iff_ne]; omega
          have hlt2 := hadd.out b k hb hlt hbk
          have x0 := hW2.2.2.2 (b + pw k) hlt2
          have g1 := hW2.1.c 1 rfl
          have IK := Lib.hid (fun W h1 h2 => IH.out k W hlt hbk h1 h2)
          have hbr1 := Lib.hid (fun e => (show brM f n l b e k = if f (b + pw k) then (if k = e then fac l else 0) else ordM f n l (b + pw k) e by rw [hbr.out, hbk]; rfl))
          have hti : ((b + pw k : Nat) : Int) < (N : Int) := by omega
          obtain ⟨t, ht⟩ : ∃ t, Hid (b + pw k = t) := ⟨_, Lib.hid rfl⟩
          rw [ht.out] at orr hneq x0 IK hbr1 hti
          replace hbk := Lib.hid hbk
          clear hlt2
          cases hf : f t
          · rw [hf] at x0
            have hnew : Hid (cN (fun e => cs k e + ordM f n l t e) n = cN (cs (k + 1)) n) := Lib.hid (cN_congr fun i _ => by rw [hstep.out, hbr1.out, hf]; rfl)
            replace hf := Lib.hid hf
            have q0 := hW2.2.2.1.c 0 rfl
            replace hW2 := Lib.hid hW2
            replace hC2 := Lib.hid hC2
            go_wp2_with (go_at_call 71; refine (IK.out _ hW2.out hC2.out).mono ?_; rintro e w2 ⟨rfl, hg2, hC3, hW3⟩; rw [hnew.out] at hC3; replace hC3 := Lib.hid hC3; replace hW3 := Lib.hid hW3)
            go_roundw
            case rel =>
              (repeat apply Exists.intro)
              exact ⟨⟨k + 1, by omega, by go_num, grown_trans hgr hg2, hC3.out, hW3.out⟩, rfl⟩
            case measure => simp [intOf]; omega
          · rw [hf] at x0
            have hcb1 := hcb.out k k hlt hlt
            have hfl := fac_le (k := l) (by omega)
            have hval := Lib.hid (show cs (k + 1) k = cs k k + fac l by rw [hstep.out, hbr1.out, hf]; simp)
            have hset := Lib.hid (cN_set (cs k) (cs (k + 1)) n k (fun i _ hne => by rw [hstep.out, hbr1.out, hf]; simp [Ne.symm hne]))
            rw [hval.out] at hset
            replace hf := Lib.hid hf
            have FA := Lib.hid (fun W => hF.out l W (by omega))
            have hnew := hC2.setA (i := k) (.int .i64 ((cs k k + fac l : Nat) : Int))
            have c0 := hC2.c k (cN_get hlt)
            have cf := hC2.fr k
            have q0 := hW2.2.1.c 0 rfl
            replace hW2 := Lib.hid hW2
            replace hC2 := Lib.hid hC2
            clear hnew cf
            obtain ⟨u, hu⟩ : ∃ u, Hid (cs k k = u) := ⟨_, Lib.hid rfl⟩
            rw [hu.out] at hcb1 c0 hset
            have hsum : IntKind.i64.wrap ((u : Int) + ((fac l : Nat) : Int)) = ((u + fac l : Nat) : Int) := by rw [IntWalk.i64_in _ (by omega)]; omega
            have hlm : IntKind.i64.wrap (((l + 1 : Nat) : Int) - 1) = (l : Int) := by rw [IntWalk.i64_in _ (by omega)]; omega
            have hlm2 : IntKind.i64.wrap (((l : Int) + 1) - 1) = (l : Int) := by rw [IntWalk.i64_in _ (by omega)]; omega
            go_wp2
            refine wp_region_ext_tail 9 (by kernel_rfl) (by kernel_rfl) ?_
            simp only [List.take_succ_cons, List.take_zero, List.drop_succ_cons, List.drop_zero]
            replace q0 := cellX q0
            replace c0 := cellX c0
            repeat (go_big_quiet_step ((go_at_call 50; exact onlyE (FA.out _))))
            refine wpQuiet_nil ?_
            rintro ⟨w1, hw1⟩
            dsimp only
            have hC3 := hC2.out.ext hw1
            have hW3 := Lib.hid (hW2.out.grown (grown_below hw1 (some C)) hne.out)
            have hg3 := grown_trans hgr (grown_below hw1 (some C))
            have d0 := hC3.c k (cN_get hlt)
            rw [hu.out] at d0
            have d1 := hC3.fr k
            have hC4 := hC3.setA (i := k) (.int .i64 ((u + fac l : Nat) : Int))
            rw [hset.out] at hC4
            have hgs : w1.grownBy (w1.setCell ⟨C, k, none⟩ (.int .i64 ((u + fac l : Nat) : Int))) (some C) := ⟨rfl, rfl, rfl, (KeepsWalks.setCell w1 _ _).size, fun j _ hj => Below.heap_setCell _ _ _ j (fun e => hj (by rw [e]))⟩
            have hW4 := Lib.hid (hW3.out.grown hgs hne.out)
            replace hC4 := Lib.hid hC4
            replace hC3 := Lib.hid hC3
            have hg4 := Lib.hid (grown_trans hg3 hgs)
            clear q0 c0 hgs hg3
            go_wp2
            go_roundw
            case rel => exact ⟨k + 1, by omega, by go_num, hg4.out, hC4.out, hW4.out⟩
            case measure => simp [intOf]; omega
        · rw [or_eq_self hbk] at orr
          have heq : ((b : Int) == (b : Int)) = true := by simp
          have hsame : Hid (cN (cs k) n = cN (cs (k + 1)) n) := Lib.hid (cN_congr fun i _ => by rw [hstep.out, hbr.out, hbk]; rfl)
          rw [hsame.out] at hC2
          replace hbk := Lib.hid hbk
          replace hW2 := Lib.hid hW2
          replace hC2 := Lib.hid hC2
          go_wp2
          go_roundw
          case rel => exact ⟨k + 1, by omega, by go_num, hgr, hC2.out, hW2.out⟩
          case measure => simp [intOf]; omega
      · obtain rfl : k = n := by omega
        go_wp2
        go_end0
        exact ⟨rfl, hgr, hC2, hW2⟩
end Go.Proofs.Ytnnndooagpkgmaa
