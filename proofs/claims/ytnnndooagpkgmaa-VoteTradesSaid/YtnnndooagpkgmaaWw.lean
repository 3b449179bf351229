/- Layer 3, by the specification: Trade. -/
import Derived.Test.YtnnndooagpkgmaaWv
namespace Go.Proofs.Ytnnndooagpkgmaa
open Go Go.RowKit

theorem tradeB_last {f : Nat → Bool} {a b c d : Nat} (h : tradeB f a b c d = true) : d = lastOf a b c := by
  unfold tradeB at h
  simp only [Bool.and_eq_true, beq_iff_eq] at h
  obtain ⟨⟨_, h1⟩, h2⟩ := h
  unfold lastOf
  refine Nat.eq_of_testBit_eq fun i => ?_
  have e1 := congrArg (fun s => s.testBit i) h1
  have e2 := congrArg (fun s => s.testBit i) h2
  simp only [Nat.testBit_and, Nat.testBit_or] at e1 e2
  rw [Nat.testBit_xor, Nat.testBit_xor]
  revert e1 e2
  cases a.testBit i <;> cases b.testBit i <;> cases c.testBit i <;> cases d.testBit i <;> simp
theorem tr3_of {f : Nat → Bool} {a b c d : Nat} (h : tradeB f a b c d = true) (hc : c ≤ d) : tr3 f a b c = true := by
  unfold tr3
  rw [← tradeB_last h, h]
  simp [hc]
theorem tr3_no {f : Nat → Bool} {a b c N : Nat} (hd : lastOf a b c < N) (h : ∀ t, c ≤ t → t < N → tradeB f a b c t = false) : tr3 f a b c = false := by
  unfold tr3
  by_cases hc : c ≤ lastOf a b c
  · rw [h _ hc hd]; simp
  · simp [hc]
theorem tr3_lose {f : Nat → Bool} {a b c : Nat} (h : f a = false ∨ f b = false ∨ f c = true) : tr3 f a b c = false := by
  unfold tr3 tradeB
  rcases h with h | h | h <;> rw [h] <;> simp
abbrev zero4 : Array Value := #[.int .i64 0, .int .i64 0, .int .i64 0, .int .i64 0]
def TrV (w wr : World) : Prop := Blk wr w.heap.size 49 zero4 ∧ Below w.heap.size w wr
theorem TrV.next {w wr w2 : World} (h : TrV w wr) (hb : Below wr.heap.size wr w2) : TrV w w2 := ⟨h.1.ext hb, nextB h.2 hb⟩
theorem TrV.below {w wr : World} (h : TrV w wr) : Below w.heap.size w wr := h.2
def LpA (f : Nat → Bool) (N : Nat) (w : World) (i : Value) (wr : World) : Prop := ∃ k : Nat, k ≤ N ∧ i = .int .i64 k ∧ NoA f N k ∧ TrV w wr
def LpB (f : Nat → Bool) (N a : Nat) (w : World) (i : Value) (wr : World) : Prop := ∃ k : Nat, a ≤ k ∧ k ≤ N ∧ i = .int .i64 k ∧ NoB f N a k ∧ TrV w wr
def LpC (f : Nat → Bool) (N a b : Nat) (w : World) (i : Value) (wr : World) : Prop := ∃ k : Nat, k ≤ N ∧ i = .int .i64 k ∧ NoC f a b k ∧ TrV w wr
def LpD (f : Nat → Bool) (N a b c : Nat) (w : World) (i : Value) (wr : World) : Prop := ∃ k : Nat, c ≤ k ∧ k ≤ N ∧ i = .int .i64 k ∧ (∀ t, c ≤ t → t < k → tradeB f a b c t = false) ∧ TrV w wr
section
variable (x : Int) (q : Option Addr) (n cc m : Nat) (R : List Int) (w : World)
theorem refTrade_no (h : Ints w q R) (hl : R.length = m) (hm : m ≤ 1000) (hR : ¬ RuleI x R) :
    Calls Try.prog 37 #[.int .i64 x, .slice q m cc] w (Ret (errV (quadV 0 0 0 0)) w) := by
  have K := Lib.hid (fun W hW => refIsRule_any x q m cc R W hW hl hm)
  rw [decide_eq_false hR] at K
  have h := Lib.hid h
  clear hl hR
  go_enter Try.func37, Try.ntmps37
  go_wp2_with (go_at_call 40; refine (K.out _ (h.out.next (b1 _ _))).mono ?_; rintro e w1 ⟨rfl, hb1⟩; have hR := (Blk.new w 49 #[.int .i64 0, .int .i64 0, .int .i64 0, .int .i64 0]).ext hb1; have r0 := hR.c 0 rfl; have r1 := hR.c 1 rfl; have r2 := hR.c 2 rfl; have r3 := hR.c 3 rfl; have rl := hR.lt; have f0 := hR.fr 0; have f1 := hR.fr 1; have f2 := hR.fr 2; have f3 := hR.fr 3; have hS := (hR.set4 (.int .i64 0) (.int .i64 0) (.int .i64 0) (.int .i64 0)); have s0 := hS.c 0 rfl; have s1 := hS.c 1 rfl; have s2 := hS.c 2 rfl; have s3 := hS.c 3 rfl; replace hS := Lib.hid hS; replace hR := Lib.hid hR)
  refine bodyPost_ret (v := errV (quadV 0 0 0 0)) (by simp [results, Try.results37, go_sem, s0, s1, s2, s3]) rfl ?_
  exact Ret.mk rfl (((((nextB (b1 _ _) hb1).setCell (Nat.le_refl _) _).setCell (Nat.le_refl _) _).setCell (Nat.le_refl _) _).setCell (Nat.le_refl _) _)
set_option maxRecDepth 100000 in
set_option maxHeartbeats 8000000 in
theorem refTrade_yes (t : Option (Nat × Nat × Nat)) (h : Ints w q R) (hl : R.length = m) (hm : m ≤ 1000) (hR : RuleP n R) (ht : TradeP (hasOne R) (pw n) t) :
    Calls Try.prog 37 #[.int .i64 (n : Nat), .slice q m cc] w (Ret (.tuple #[trV t, .int .i64 (trE t)]) w) := by
  have h5 := hR.2.1
  have hp8 : pw n ≤ 256 := by have := pw_mono (show n ≤ 8 by omega); simpa [pw] using this
  have K := Lib.hid (fun W hW => refIsRule_any n q m cc R W hW hl hm)
  rw [decide_eq_true (show RuleI (n : Int) R from ⟨by have := hR.1; omega, by simpa using hR⟩)] at K
  have V := Lib.hid (fun s W hW (hs : s < pw n) => ruled_at q n cc m R W hW hl hm hR s hs)
  have I := Lib.hid (fun a b c d W hW (ha : a < pw n) (hb : b < pw n) (hc : c < pw n) (hd : d < pw n) => refisTrade_any q m cc n a b c d R W hW hl hm hR ha hb hc hd)
  have hlast := Lib.hid (fun a b c (ha : a < pw n) (hb : b < pw n) (hc : c < pw n) => lastOf_lt ha hb hc)
  have sh := wrap_shl (k := n) (by omega)
  generalize hasOne R = f at *
  obtain ⟨N, hN⟩ : ∃ N, Hid (pw n = N) := ⟨_, Lib.hid rfl⟩
  rw [hN.out] at hp8 V I hlast ht sh
  have hF := Lib.hid (fun a b c (h : FirstT f N a b c) => TradeP.unique ht h)
  have hNo := Lib.hid (fun (h : NoA f N N) => TradeP.none ht h)
  have h := Lib.hid h
  clear ht hl hm hR
  go_enter Try.func37, Try.ntmps37
  go_wp2_with (go_at_call 40; refine (K.out _ (h.out.next (b1 _ _))).mono ?_; rintro e w1 ⟨rfl, hb1⟩)
  have hW : TrV w w1 := ⟨(Blk.new w 49 zero4).ext hb1, nextB (b1 w (.cells zero4 49)) hb1⟩
  clear hb1
  try simp only [sh]
  go_loopw [6, 7, 8, 9] (fun i _ _ _ wr => LpA f N w i wr) (fun i _ _ _ _ => N - (intOf i).toNat)
  case atStart => exact ⟨0, by omega, rfl, fun i hi => absurd hi (by omega), hW⟩
  case round =>
    clear hW
    obtain ⟨a, ha, rfl, hA, hW⟩ := hrel
    replace hA := Lib.hid hA
    replace hW := Lib.hid hW
    by_cases hlt : a < N
    · have hai : (a : Int) < (N : Int) := by omega
      go_wp2
      generalize wr = w1 at *
      try simp only [sh]
      go_loopw [7, 8, 9] (fun i _ _ wr => LpB f N a w i wr) (fun i _ _ _ => N - (intOf i).toNat)
      case atStart => exact ⟨a, by omega, by omega, rfl, fun i hi h => absurd hi (by omega), hW.out⟩
      case round =>
        clear hW
        obtain ⟨b, hab, hb, rfl, hBB, hW⟩ := hrel
        replace hBB := Lib.hid hBB
        replace hW := Lib.hid hW
        by_cases hlb : b < N
        · have hbi : (b : Int) < (N : Int) := by omega
          have hbN := Lib.hid (fun (hh : NoC f a b N) => (show NoB f N a (b + 1) from lt_succ_all hBB.out (fun _ => hh)))
          go_wp2
          generalize wr = w2 at *
          try simp only [sh]
          go_loopw [8, 9] (fun i _ wr => LpC f N a b w i wr) (fun i _ _ => N - (intOf i).toNat)
          case atStart => exact ⟨0, by omega, rfl, fun i hi => absurd hi (by omega), hW.out⟩
          case round =>
            clear hW
            obtain ⟨c, hc, rfl, hC, hW⟩ := hrel
            replace hC := Lib.hid hC
            replace hW := Lib.hid hW
            by_cases hlc : c < N
            · have hci : (c : Int) < (N : Int) := by omega
              have Va := Lib.hid (fun W hW => V.out a W hW hlt)
              have Vb := Lib.hid (fun W hW => V.out b W hW hlb)
              have hfa := Lib.hid (fun (g : f a = false) => hbN.out (fun c _ => tr3_lose (.inl g)))
              have hfb := Lib.hid (fun (g : f b = false) => hbN.out (fun c _ => tr3_lose (.inr (.inl g))))
              cases ga : f a
              · rw [ga] at Va
                have hb2 := Lib.hid (hfa.out ga)
                replace ga := Lib.hid ga
                go_wp2_with (go_at_call 57; (with_reducible refine (Va.out _ (h.out.next hW.out.below)).mono ?_); rintro e w4 ⟨rfl, hb4⟩)
                go_roundw
                case rel => exact ⟨b + 1, by omega, by omega, by go_num, hb2.out, hW.out.next hb4⟩
                case measure => simp [intOf]; omega
              · cases gb : f b
                · rw [ga] at Va
                  rw [gb] at Vb
                  have hb2 := Lib.hid (hfb.out gb)
                  replace ga := Lib.hid ga
                  replace gb := Lib.hid gb
                  go_wp2_with (first
                    | (go_at_call 57; (with_reducible refine (Va.out _ (h.out.next hW.out.below)).mono ?_); rintro e w4 ⟨rfl, hb4⟩)
                    | (go_at_call 57; (with_reducible refine (Vb.out _ (h.out.next (nextB hW.out.below hb4))).mono ?_); rintro e w5 ⟨rfl, hb5⟩))
                  go_roundw
                  case rel => exact ⟨b + 1, by omega, by omega, by go_num, hb2.out, (hW.out.next hb4).next hb5⟩
                  case measure => simp [intOf]; omega
                · rw [ga] at Va
                  rw [gb] at Vb
                  replace ga := Lib.hid ga
                  replace gb := Lib.hid gb
                  go_wp2_with (first
                    | (go_at_call 57; (with_reducible refine (Va.out _ (h.out.next hW.out.below)).mono ?_); rintro e w4 ⟨rfl, hb4⟩)
                    | (go_at_call 57; (with_reducible refine (Vb.out _ (h.out.next (nextB hW.out.below hb4))).mono ?_); rintro e w5 ⟨rfl, hb5⟩))
                  replace hW := Lib.hid ((hW.out.next hb4).next hb5)
                  clear hb4 hb5 Va Vb hfa hfb
                  have Vc := Lib.hid (fun W hW => V.out c W hW hlc)
                  have hld := Lib.hid (hlast.out a b c hlt hlb hlc)
                  have hnext := Lib.hid (fun (h : tr3 f a b c = false) => (show NoC f a b (c + 1) from lt_succ_all hC.out h))
                  have hfirst := Lib.hid (fun (h : tr3 f a b c = true) => hF.out a b c ⟨hlt, hab, hlb, hlc, h, hA.out, hBB.out, hC.out⟩)
                  try simp only [sh]
                  go_loopw [9] (fun i wr => LpD f N a b c w i wr) (fun i _ => N - (intOf i).toNat)
                  case atStart => exact ⟨c, by omega, by omega, rfl, fun t h1 h2 => absurd h2 (by omega), hW.out⟩
                  case round =>
                    clear hW
                    obtain ⟨d, hcd, hd, rfl, hD, hW⟩ := hrel
                    replace hD := Lib.hid hD
                    replace hW := Lib.hid hW
                    by_cases hld2 : d < N
                    · have hdi : (d : Int) < (N : Int) := by omega
                      cases gc : f c
                      · rw [gc] at Vc
                        replace gc := Lib.hid gc
                        have II := Lib.hid (fun W hW => I.out a b c d W hW hlt hlb hlc hld2)
                        have hst := Lib.hid (fun (g : tradeB f a b c d = false) => (show ∀ t, c ≤ t → t < d + 1 → tradeB f a b c t = false from fun t h1 h2 => by
                          by_cases e : t = d
                          · rw [e]; exact g
                          · exact hD.out t h1 (by omega)))
                        have hhit := Lib.hid (fun (g : tradeB f a b c d = true) => (show trV t = quadV (a : Nat) (b : Nat) (c : Nat) (d : Nat) ∧ trE t = 0 by
                          rw [hfirst.out (tr3_of g hcd), tradeB_last g]
                          exact ⟨rfl, rfl⟩))
                        cases g : tradeB f a b c d
                        · rw [g] at II
                          have hst2 := Lib.hid (hst.out g)
                          replace g := Lib.hid g
                          go_wp2_with (first
                            | (go_at_call 57; (with_reducible refine (Vc.out _ (h.out.next hW.out.below)).mono ?_); rintro e w4 ⟨rfl, hb4⟩)
                            | (go_at_call 63; (with_reducible refine (II.out _ (h.out.next (nextB hW.out.below hb4))).mono ?_); rintro e w5 ⟨rfl, hb5⟩))
                          go_roundw
                          case rel => exact ⟨d + 1, by omega, by omega, by go_num, hst2.out, (hW.out.next hb4).next hb5⟩
                          case measure => simp [intOf]; omega
                        · rw [g] at II
                          obtain ⟨h1, h2⟩ := hhit.out g
                          replace h1 := Lib.hid h1
                          replace h2 := Lib.hid h2
                          replace g := Lib.hid g
                          clear hst hhit
                          go_wp2_with (first
                            | (go_at_call 57; (with_reducible refine (Vc.out _ (h.out.next hW.out.below)).mono ?_); rintro e w4 ⟨rfl, hb4⟩)
                            | (go_at_call 63; (with_reducible refine (II.out _ (h.out.next (nextB hW.out.below hb4))).mono ?_); rintro e w5 ⟨rfl, hb5⟩; have hW3 := (hW.out.next hb4).next hb5; have hR := hW3.1; have r0 := hR.c 0 rfl; have r1 := hR.c 1 rfl; have r2 := hR.c 2 rfl; have r3 := hR.c 3 rfl; have rl := hR.lt; have f0 := hR.fr 0; have f1 := hR.fr 1; have f2 := hR.fr 2; have f3 := hR.fr 3; have hS := hR.set4 (.int .i64 (a : Nat)) (.int .i64 (b : Nat)) (.int .i64 (c : Nat)) (.int .i64 (d : Nat)); have s0 := hS.c 0 rfl; have s1 := hS.c 1 rfl; have s2 := hS.c 2 rfl; have s3 := hS.c 3 rfl; replace hW3 := Lib.hid hW3; replace hR := Lib.hid hR; replace hS := Lib.hid hS))
                          refine bodyPost_ret (v := .tuple #[quadV (a : Nat) (b : Nat) (c : Nat) (d : Nat), .int .i64 0]) (by simp [results, Try.results37, go_sem, s0, s1, s2, s3]) rfl ?_
                          exact Ret.mk (show Value.tuple #[quadV (a : Nat) (b : Nat) (c : Nat) (d : Nat), .int .i64 0] = .tuple #[trV t, .int .i64 (trE t)] by rw [h1.out, h2.out]) ((((hW3.out.2.setCell (Nat.le_refl _) _).setCell (Nat.le_refl _) _).setCell (Nat.le_refl _) _).setCell (Nat.le_refl _) _)
                      · rw [gc] at Vc
                        have hn2 := Lib.hid (hnext.out (tr3_lose (.inr (.inr gc))))
                        replace gc := Lib.hid gc
                        go_wp2_with (go_at_call 57; (with_reducible refine (Vc.out _ (h.out.next hW.out.below)).mono ?_); rintro e w4 ⟨rfl, hb4⟩)
                        go_roundw
                        case rel => exact ⟨c + 1, by omega, by go_num, hn2.out, hW.out.next hb4⟩
                        case measure => simp [intOf]; omega
                    · obtain rfl : d = N := by omega
                      have hn2 := Lib.hid (hnext.out (tr3_no hld.out hD.out))
                      go_wp2
                      go_roundw
                      case rel => exact ⟨c + 1, by omega, by go_num, hn2.out, hW.out⟩
                      case measure => simp [intOf]; omega
            · obtain rfl : c = N := by omega
              have hb2 := Lib.hid (hbN.out hC.out)
              go_wp2
              go_roundw
              case rel => exact ⟨b + 1, by omega, by omega, by go_num, hb2.out, hW.out⟩
              case measure => simp [intOf]; omega
        · obtain rfl : b = N := by omega
          have ha2 := Lib.hid (show NoA f b (a + 1) from lt_succ_all hA.out hBB.out)
          go_wp2
          go_roundw
          case rel => exact ⟨a + 1, by omega, by go_num, ha2.out, hW.out⟩
          case measure => simp [intOf]; omega
    · obtain rfl : a = N := by omega
      have hn := hNo.out hA.out
      subst hn
      have hR := hW.out.1
      have r0 := hR.c 0 rfl
      have r1 := hR.c 1 rfl
      have r2 := hR.c 2 rfl
      have r3 := hR.c 3 rfl
      have rl := hR.lt
      have f0 := hR.fr 0
      have f1 := hR.fr 1
      have f2 := hR.fr 2
      have f3 := hR.fr 3
      have hS := hR.set4 (.int .i64 0) (.int .i64 0) (.int .i64 0) (.int .i64 0)
      have s0 := hS.c 0 rfl
      have s1 := hS.c 1 rfl
      have s2 := hS.c 2 rfl
      have s3 := hS.c 3 rfl
      replace hS := Lib.hid hS
      replace hR := Lib.hid hR
      go_wp2
      refine bodyPost_ret (v := .tuple #[quadV 0 0 0 0, .int .i64 10]) (by simp [results, Try.results37, go_sem, s0, s1, s2, s3]) rfl ?_
      exact Ret.mk rfl ((((hW.out.2.setCell (Nat.le_refl _) _).setCell (Nat.le_refl _) _).setCell (Nat.le_refl _) _).setCell (Nat.le_refl _) _)
end
end Go.Proofs.Ytnnndooagpkgmaa
