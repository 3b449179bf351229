/- Layer 3, by the program: the search for a trade. -/
import Derived.Test.YtnnndooagpkgmaaVn
namespace Go.Proofs.Ytnnndooagpkgmaa
open Go Go.RowKit

theorem lt_succ_all {P : Nat → Prop} {k : Nat} (h : ∀ i, i < k → P i) (hk : P k) : ∀ i, i < k + 1 → P i := fun i hi => by
  by_cases e : i = k
  · subst e; exact hk
  · exact h i (by omega)
/-- What every world of the search keeps. -/
def TrW (n N B : Nat) (w wr : World) : Prop := Blk wr w.heap.size 60 #[.int .i64 (n : Nat), .slice (some ⟨B, 0, none⟩) N N] ∧ Blk wr (w.heap.size + 1) 49 #[.int .i64 0, .int .i64 0, .int .i64 0, .int .i64 0] ∧ Below w.heap.size w wr
theorem TrW.next {n N B : Nat} {w wr w2 : World} (h : TrW n N B w wr) (hb : Below wr.heap.size wr w2) : TrW n N B w w2 := ⟨h.1.ext hb, h.2.1.ext hb, nextB h.2.2 hb⟩
theorem TradeP.unique {f : Nat → Bool} {N : Nat} {t : Option (Nat × Nat × Nat)} (h : TradeP f N t) {a b c : Nat} (k : FirstT f N a b c) : t = some (a, b, c) := by
  cases t with
  | none => exact absurd h k.some
  | some t =>
    obtain ⟨a', b', c'⟩ := t
    obtain ⟨rfl, rfl, rfl⟩ := FirstT.unique h k
    rfl
theorem TradeP.none {f : Nat → Bool} {N : Nat} {t : Option (Nat × Nat × Nat)} (h : TradeP f N t) (k : NoA f N N) : t = Option.none := by
  cases t with
  | none => rfl
  | some t => exact absurd k (FirstT.some h)
theorem Blk.set4 {W : World} {B : Nat} {t : TypeId} {x y z u : Value} (h : Blk W B t #[x, y, z, u]) (x' y' z' u' : Value) : Blk ((((W.setCell ⟨B, 0, none⟩ x').setCell ⟨B, 1, none⟩ y').setCell ⟨B, 2, none⟩ z').setCell ⟨B, 3, none⟩ u') B t #[x', y', z', u'] := (((h.setA x').setA y').setA z').setA u'
def LoopA (f : Nat → Bool) (n N B : Nat) (w : World) (i : Value) (wr : World) : Prop := ∃ k : Nat, k ≤ N ∧ i = .int .i64 k ∧ NoA f N k ∧ TrW n N B w wr
def LoopB (f : Nat → Bool) (n N B a : Nat) (w : World) (i : Value) (wr : World) : Prop := ∃ k : Nat, a ≤ k ∧ k ≤ N ∧ i = .int .i64 k ∧ NoB f N a k ∧ TrW n N B w wr
def LoopC (f : Nat → Bool) (n N B a b : Nat) (w : World) (i : Value) (wr : World) : Prop := ∃ k : Nat, k ≤ N ∧ i = .int .i64 k ∧ NoC f a b k ∧ TrW n N B w wr
set_option maxRecDepth 100000 in
set_option maxHeartbeats 8000000 in
theorem trade_any (n B : Nat) (f : Nat → Bool) (t : Option (Nat × Nat × Nat)) (w : World) (h8 : n ≤ 8) (hB : Bools w B (pw n) f) (ht : TradeP f (pw n) t) :
    Calls Try.prog 60 #[gV n B (pw n)] w (Ret (.tuple #[trV t, .bool t.isSome]) w) := by
  have hp8 : pw n ≤ 256 := by have := pw_mono h8; simpa [pw] using this
  have I := Lib.hid (fun a b c d W (ha : a < pw n) (hb : b < pw n) (hc : c < pw n) (hd : d < pw n) (hW : Below w.heap.size w W) => isTrade_any n B a b c d f W h8 ha hb hc hd (hB.next hW))
  have hlast := Lib.hid (fun a b c (ha : a < pw n) (hb : b < pw n) (hc : c < pw n) => lastOf_lt ha hb hc)
  obtain ⟨N, hN⟩ : ∃ N, Hid (pw n = N) := ⟨_, Lib.hid rfl⟩
  rw [hN.out] at hp8 I hlast ht ⊢
  have hF := Lib.hid (fun a b c (h : FirstT f N a b c) => TradeP.unique ht h)
  have hNo := Lib.hid (fun (h : NoA f N N) => TradeP.none ht h)
  clear ht hB
  go_enter Try.func60, Try.ntmps60
  go_wp2
  have G0 : TrW n N B w ((w.alloc (.cells #[.int .i64 (n : Nat), .slice (some ⟨B, 0, none⟩) N N] 60)).alloc (.cells #[.int .i64 0, .int .i64 0, .int .i64 0, .int .i64 0] 49)) :=
    ⟨(Blk.new w _ _).alloc _, two_box _ _ _ _ _, b2 _ _ _⟩
  go_loopw [4, 5, 6, 7, 8, 12] (fun _ _ _ _ _ i wr => LoopA f n N B w i wr) (fun _ _ _ _ _ i _ => N - (intOf i).toNat)
  case atStart => exact ⟨0, by omega, rfl, fun i hi => absurd hi (by omega), G0⟩
  case round =>
    clear G0
    obtain ⟨a, ha, rfl, hA, hW⟩ := hrel
    replace hA := Lib.hid hA
    by_cases hlt : a < N
    · have hai : (a : Int) < (N : Int) := by omega
      go_wp2
      generalize wr = w1 at *
      go_loopw [5, 6, 7, 8] (fun i _ _ _ wr => LoopB f n N B a w i wr) (fun i _ _ _ _ => N - (intOf i).toNat)
      case atStart => exact ⟨a, by omega, by omega, rfl, fun i hi h => absurd hi (by omega), hW⟩
      case round =>
        clear hW
        obtain ⟨b, hab, hb, rfl, hBB, hW⟩ := hrel
        replace hBB := Lib.hid hBB
        have g1 := hW.1.c 1 rfl
        replace hW := Lib.hid hW
        by_cases hlb : b < N
        · have hbi : (b : Int) < (N : Int) := by omega
          go_wp2
          generalize wr = w2 at *
          go_loopw [6, 7, 8, 26] (fun _ _ _ i wr => LoopC f n N B a b w i wr) (fun _ _ _ i _ => N - (intOf i).toNat)
          case atStart => exact ⟨0, by omega, rfl, fun i hi => absurd hi (by omega), hW.out⟩
          case round =>
            clear g1 hW
            obtain ⟨c, hc, rfl, hC, hW⟩ := hrel
            replace hC := Lib.hid hC
            by_cases hlc : c < N
            · have hci : (c : Int) < (N : Int) := by omega
              have g0 := hW.1.c 0 rfl
              have g1 := hW.1.c 1 rfl
              have gl := hW.1.lt
              have hd := hlast.out a b c hlt hlb hlc
              have x1 := i64_xor_nat a b (by omega) (by omega)
              have x2 := i64_xor_nat (a ^^^ b) c (by have : a ^^^ b < pw n := Nat.xor_lt_two_pow (by have := hN.out; unfold pw at this; omega) (by have := hN.out; unfold pw at this; omega); rw [hN.out] at this; omega) (by omega)
              have htr := Lib.hid (show tr3 f a b c = (decide (c ≤ lastOf a b c) && tradeB f a b c (lastOf a b c)) from rfl)
              have II := Lib.hid (fun W hW => I.out a b c (lastOf a b c) W hlt hlb hlc hd hW)
              have hfirst := Lib.hid (fun (h : tr3 f a b c = true) => hF.out a b c ⟨hlt, hab, hlb, hlc, h, hA.out, hBB.out, hC.out⟩)
              have hnext := Lib.hid (fun (h : tr3 f a b c = false) => (show NoC f a b (c + 1) from lt_succ_all hC.out h))
              have hv := Lib.hid (show trV (some (a, b, c)) = quadV (a : Nat) (b : Nat) (c : Nat) (lastOf a b c : Nat) from rfl)
              change bits .xor .i64 ((a ^^^ b : Nat) : Int) (c : Int) = ((lastOf a b c : Nat) : Int) at x2
              replace hW := Lib.hid hW
              generalize lastOf a b c = d at *
              cases g : decide (c ≤ d)
              · have gi : decide ((c : Int) ≤ (d : Int)) = false := decide_eq_false (by have := of_decide_eq_false g; omega)
                have hn2 := Lib.hid (hnext.out (by rw [htr.out, g]; rfl))
                go_wp2
                go_roundw
                case rel => exact ⟨c + 1, by omega, by go_num, hn2.out, hW.out.next (b1 _ _)⟩
                case measure => simp [intOf]; omega
              · have gi : decide ((c : Int) ≤ (d : Int)) = true := decide_eq_true (by have := of_decide_eq_true g; omega)
                have BW := b1 wr (.cells #[.int .i64 (a : Nat), .int .i64 (b : Nat), .int .i64 (c : Nat), .int .i64 (d : Nat)] 49)
                have IW := Lib.hid (II.out _ (nextB hW.out.2.2 BW))
                have X4 := Lib.hid (Blk.new wr 49 #[.int .i64 (a : Nat), .int .i64 (b : Nat), .int .i64 (c : Nat), .int .i64 (d : Nat)])
                cases g2 : tradeB f a b c d
                · have hn2 := Lib.hid (hnext.out (by rw [htr.out, g2]; simp))
                  rw [g2] at IW
                  replace g2 := Lib.hid g2
                  go_wp2_with (go_at_call 64; refine IW.out.mono ?_; rintro e w3 ⟨rfl, hb3⟩)
                  go_roundw
                  case rel => exact ⟨c + 1, by omega, by go_num, hn2.out, (hW.out.next BW).next hb3⟩
                  case measure => simp [intOf]; omega
                · have hf2 := Lib.hid (hfirst.out (by rw [htr.out, g, g2]; rfl))
                  rw [g2] at IW
                  replace g2 := Lib.hid g2
                  go_wp2_with (go_at_call 64; refine IW.out.mono ?_; rintro e w3 ⟨rfl, hb3⟩; have X5 := X4.out.ext hb3; have y0 := X5.c 0 rfl; have y1 := X5.c 1 rfl; have y2 := X5.c 2 rfl; have y3 := X5.c 3 rfl; have yl := X5.lt; have hW3 := (hW.out.next BW).next hb3; have hR := hW3.2.1; have r0 := hR.c 0 rfl; have r1 := hR.c 1 rfl; have r2 := hR.c 2 rfl; have r3 := hR.c 3 rfl; have f0 := hR.fr 0; have f1 := hR.fr 1; have f2 := hR.fr 2; have f3 := hR.fr 3; have hS := hR.set4 (.int .i64 (a : Nat)) (.int .i64 (b : Nat)) (.int .i64 (c : Nat)) (.int .i64 (d : Nat)); have s0 := hS.c 0 rfl; have s1 := hS.c 1 rfl; have s2 := hS.c 2 rfl; have s3 := hS.c 3 rfl; replace X5 := Lib.hid X5; replace hW3 := Lib.hid hW3; replace hR := Lib.hid hR; replace hS := Lib.hid hS)
                  refine bodyPost_ret (v := .tuple #[quadV (a : Nat) (b : Nat) (c : Nat) (d : Nat), .bool true]) (by simp [results, Try.results60, go_sem, s0, s1, s2, s3]) rfl ?_
                  exact Ret.mk (show Value.tuple #[quadV (a : Nat) (b : Nat) (c : Nat) (d : Nat), .bool true] = .tuple #[trV t, .bool t.isSome] by rw [hf2.out, hv.out]; rfl) ((((hW3.out.2.2.setCell (Nat.le_succ _) _).setCell (Nat.le_succ _) _).setCell (Nat.le_succ _) _).setCell (Nat.le_succ _) _)
            · obtain rfl : c = N := by omega
              have hb2 := Lib.hid (show NoB f c a (b + 1) from lt_succ_all hBB.out (fun _ => hC.out))
              go_wp2
              go_roundw
              case rel => exact ⟨b + 1, by omega, by omega, by go_num, hb2.out, hW⟩
              case measure => simp [intOf]; omega
        · obtain rfl : b = N := by omega
          have ha2 := Lib.hid (show NoA f b (a + 1) from lt_succ_all hA.out hBB.out)
          go_wp2
          go_roundw
          case rel => exact ⟨a + 1, by omega, by go_num, ha2.out, hW.out⟩
          case measure => simp [intOf]; omega
    · obtain rfl : a = N := by omega
      have hn := Lib.hid (hNo.out hA.out)
      have hR := hW.2.1
      have r0 := hR.c 0 rfl
      have r1 := hR.c 1 rfl
      have r2 := hR.c 2 rfl
      have r3 := hR.c 3 rfl
      have f0 := hR.fr 0
      have f1 := hR.fr 1
      have f2 := hR.fr 2
      have f3 := hR.fr 3
      have hS := hR.set4 (.int .i64 0) (.int .i64 0) (.int .i64 0) (.int .i64 0)
      have s0 := hS.c 0 rfl
      have s1 := hS.c 1 rfl
      have s2 := hS.c 2 rfl
      have s3 := hS.c 3 rfl
      replace hS := Lib.hid hS
      replace hR := Lib.hid hR
      go_wp2
      refine bodyPost_ret (v := .tuple #[quadV 0 0 0 0, .bool false]) (by simp [results, Try.results60, go_sem, s0, s1, s2, s3]) rfl ?_
      exact Ret.mk (show Value.tuple #[quadV 0 0 0 0, .bool false] = .tuple #[trV t, .bool t.isSome] by rw [hn.out]; rfl) ((((hW.2.2.setCell (Nat.le_succ _) _).setCell (Nat.le_succ _) _).setCell (Nat.le_succ _) _).setCell (Nat.le_succ _) _)
end Go.Proofs.Ytnnndooagpkgmaa
