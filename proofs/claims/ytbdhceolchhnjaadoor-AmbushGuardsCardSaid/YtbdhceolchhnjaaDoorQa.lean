/- Layer 4, the laws' own words: are two lists the same; what every right program knows of two and of three spots. -/
import Derived.Test.YtbdhceolchhnjaaDoorAx
namespace Go.Proofs.YtbdhceolchhnjaaDoor
open Go Go.RowKit

theorem eqPr (a b c d : Int) (w : World) : (Op.equalIn 10000 58 (.agg #[.int .i64 a, .int .i64 b]) (.agg #[.int .i64 c, .int .i64 d])).run Tryd.prog w = .ok (a == c && b == d) w := by
  have u3 := Tryd.underlying3
  have a3 := Tryd.isAgg3
  have z3 := Tryd.sizeOf3
  have hS : Tryd.prog.underlying 58 = some (.struct (Tryd.prog.fieldsOf 58)) := by kernel_rfl
  rw [show (10000 : Nat) = 9999 + 1 from rfl, run_equalIn_agg w 9999 58 _ _ hS (by kernel_rfl)]
  simp only [Program.fieldsOf, Tryd.underlying58]
  go_simp
  by_cases h1 : a = c <;> by_cases h2 : b = d <;> simp [h1, h2]
@[go_sem high] theorem run_eqlPr (a b c d : Int) (w : World) : (binOp .eql 58 (.agg #[.int .i64 a, .int .i64 b]) (.agg #[.int .i64 c, .int .i64 d])).run Tryd.prog w = .ok (.bool (eqP (a, b) (c, d))) w := by
  rw [run_eql_struct, eqPr]; rfl
@[go_sem high] theorem run_neqPr (a b c d : Int) (w : World) : (binOp .neq 58 (.agg #[.int .i64 a, .int .i64 b]) (.agg #[.int .i64 c, .int .i64 d])).run Tryd.prog w = .ok (.bool (!eqP (a, b) (c, d))) w := by
  rw [run_neq_struct, eqPr]; rfl

theorem same_any (a b : Option Addr) (n m c d : Nat) (xs ys : List Int) (w : World) (h : Ints w a xs) (h' : Ints w b ys) (hl : xs.length = n) (hl' : ys.length = m) (hn : n ≤ 1000000) (hm : m ≤ 1000000) :
    Calls Tryd.prog 16 #[.slice a n c, .slice b m d] w (Ret (.bool (decide (xs = ys))) w) := by
  by_cases hnm : n = m
  · subst hnm
    have hne : ((n : Int) != (n : Int)) = false := by simp
    by_cases h0 : n = 0
    · subst h0
      have e1 := List.eq_nil_of_length_eq_zero hl
      have e2 := List.eq_nil_of_length_eq_zero hl'
      subst e1
      subst e2
      rw [decide_eq_true rfl]
      clear hl hl' hne h h'
      go_enter Tryd.func16, Tryd.ntmps16
      go_wp2
      go_loop [5] (fun i => i = .int .i64 0) (fun _ => 0)
      case atStart => rfl
      case round =>
        subst hrel
        go_wp2
        go_ret
        exact Ret.mk rfl (Below.refl _ _)
    · obtain ⟨b1', o1, rfl, hc⟩ := ints_at h (by omega)
      obtain ⟨b2', o2, rfl, hc'⟩ := ints_at h' (by omega)
      rw [hl] at hc
      rw [hl'] at hc'
      replace hc := Lib.hid hc
      replace hc' := Lib.hid hc'
      have hL := Lib.hid (hl.trans hl'.symm)
      replace hl := Lib.hid hl
      clear h h' hl'
      go_enter Tryd.func16, Tryd.ntmps16
      go_wp2
      go_loopw [5] (fun i wr => ∃ k : Nat, k ≤ n ∧ i = .int .i64 k ∧ (∀ j, j < k → nth xs j = nth ys j) ∧ Below w.heap.size w wr) (fun i _ => n - (intOf i).toNat)
      case atStart => exact ⟨0, by omega, rfl, fun j hj => absurd hj (by omega), Below.refl _ _⟩
      case round =>
        obtain ⟨k, hk, rfl, hs, B0⟩ := hrel
        replace hs := Lib.hid hs
        by_cases hlt : k < n
        · have hki : (k : Int) < (n : Int) := by omega
          have x0 := cellX (cellB B0 (hc.out k hlt))
          have x1 := cellX (cellB B0 (hc'.out k hlt))
          obtain ⟨x, hx⟩ : ∃ x, Hid (nth xs k = x) := ⟨_, Lib.hid rfl⟩
          obtain ⟨y, hy⟩ : ∃ y, Hid (nth ys k = y) := ⟨_, Lib.hid rfl⟩
          rw [hx.out] at x0
          rw [hy.out] at x1
          cases g : (x != y)
          all_goals
            have g' := Lib.hid g
            go_wp2
            refine wp_region_ext (by kernel_rfl) (by kernel_rfl) ?_
            repeat (go_big_quiet_step (fail))
            refine wpQuiet_nil ?_
            rintro ⟨w1, hw1⟩
            dsimp only
            go_wp2
            first
              | (go_ret
                 exact Ret.mk (show Value.bool false = _ by
                   rw [decide_eq_false (fun h => by
                     have h2 := g'.out
                     rw [bne_iff_ne] at h2
                     subst h
                     exact h2 (hx.out.symm.trans hy.out))]) (nextB B0 hw1))
              | (go_roundw
                 case rel => exact ⟨k + 1, by omega, by go_num, fun j hj => (by
                   by_cases e : j = k
                   · subst e
                     have h2 := g'.out
                     rw [bne_eq_false_iff_eq] at h2
                     rw [hx.out, hy.out, h2]
                   · exact hs.out j (by omega)), nextB B0 hw1⟩
                 case measure => simp [intOf]; omega)
        · obtain rfl : k = n := by omega
          go_wp2
          go_ret
          exact Ret.mk (show Value.bool true = _ by rw [decide_eq_true (ext_nth hL.out (fun i hi => hs.out i (by rw [hl.out] at hi; exact hi)))]) B0
  · have hne : ((n : Int) != (m : Int)) = true := by rw [bne_iff_ne]; omega
    have hf : decide (xs = ys) = false := decide_eq_false (fun e => hnm (by rw [← hl, ← hl', e]))
    rw [hf]
    clear hf hl hl' hnm
    go_enter Tryd.func16, Tryd.ntmps16
    go_wp2
    go_ret
    exact Ret.mk rfl (Below.refl _ _)
set_option maxRecDepth 100000 in
set_option maxHeartbeats 800000 in
theorem pairs_any (a a' : Option Addr) (n n' c c' : Nat) (xs ys : List (Int × Int)) (w : World) (h : Prs w a xs) (h' : Prs w a' ys) (hn : xs.length = n) (hn' : ys.length = n') (hm : n ≤ 4611686018427387904) (hm' : n' ≤ 4611686018427387904) :
    Calls Tryd.prog 19 #[.slice a n c, .slice a' n' c'] w (Ret (.bool (decide (xs = ys))) w) := by
  by_cases he : n = n'
  · subst he
    by_cases h0 : n = 0
    · subst h0
      have e : Hid (xs = ys) := by rw [List.eq_nil_of_length_eq_zero hn, List.eq_nil_of_length_eq_zero hn']; exact Lib.hid rfl
      rw [decide_eq_true e.out]
      clear hn hn'
      go_enter Tryd.func19, Tryd.ntmps19
      go_wp2
      go_loop [5] (fun i => i = .int .i64 0) (fun i => 0)
      case atStart => rfl
      case round =>
        subst hrel
        go_wp2
        go_ret
        exact Ret.mk rfl (Below.refl _ _)
    · obtain ⟨b, off, rfl, hc⟩ := prs_at h (by omega)
      obtain ⟨b', off', rfl, hc'⟩ := prs_at h' (by omega)
      rw [hn] at hc
      rw [hn'] at hc'
      replace hc := Lib.hid hc
      replace hc' := Lib.hid hc'
      replace hn := Lib.hid hn
      replace hn' := Lib.hid hn'
      clear h h'
      go_enter Tryd.func19, Tryd.ntmps19
      go_wp2
      go_loopw [5] (fun i wr => ∃ k : Nat, k ≤ n ∧ i = .int .i64 k ∧ (∀ j, j < k → pth xs j = pth ys j) ∧ Below w.heap.size w wr) (fun i _ => n - (intOf i).toNat)
      case atStart => exact ⟨0, by omega, rfl, fun j hj => absurd hj (by omega), Below.refl _ _⟩
      case round =>
        obtain ⟨k, hk, rfl, hok, B0⟩ := hrel
        replace hok := Lib.hid hok
        by_cases hlt : k < n
        · have x0 := cellX (cellB B0 (hc.out k hlt).1)
          have y0 := cellX (cellB B0 (hc'.out k hlt).1)
          have x1 := cellX (cellB B0 (hc.out k hlt).2)
          have y1 := cellX (cellB B0 (hc'.out k hlt).2)
          have hi0 : (0 : Int) ≤ (k : Int) := by omega
          have hi1 : (k : Int) < (n : Int) := by omega
          go_wp2
          refine wp_region_ext (by kernel_rfl) (by kernel_rfl) ?_
          repeat (go_big_quiet_step (fail))
          refine wpQuiet_nil ?_
          rintro ⟨w1, hw1⟩
          dsimp only
          replace B0 := nextB B0 hw1
          clear x0 y0 x1 y1 hw1
          cases g : eqP ((pth xs k).1, (pth xs k).2) ((pth ys k).1, (pth ys k).2)
          · have g' := Lib.hid (show pth xs k ≠ pth ys k from eqP_not.1 g)
            go_wp2
            go_ret
            exact Ret.mk (ret_dec (by simp only [Bool.false_eq_true, false_iff]; intro e; exact g'.out (by rw [e]))) B0
          · have g' := Lib.hid (show pth xs k = pth ys k from eqP_iff.1 g)
            go_wp2
            go_roundw
            case rel => exact ⟨k + 1, by omega, by go_num, fun j hj => (by
              by_cases hjk : j = k
              · subst hjk; exact g'.out
              · exact hok.out j (by omega)), B0⟩
            case measure => simp [intOf]; omega
        · go_wp2
          go_ret
          exact Ret.mk (ret_dec (by simp only [true_iff]; exact ext_pth (hn.out.trans hn'.out.symm) (fun i hi => hok.out i (by rw [hn.out] at hi; omega)))) B0
  · have e : Hid (¬ xs = ys) := Lib.hid (fun e => he (by rw [← hn, ← hn', e]))
    have g : ((n : Int) != (n' : Int)) = true := by rw [bne_iff_ne]; omega
    rw [decide_eq_false e.out]
    clear hn hn' he
    go_enter Tryd.func19, Tryd.ntmps19
    go_wp2
    go_ret
    exact Ret.mk rfl (Below.refl _ _)

theorem same_at (a b : Option Addr) (n c d : Nat) (xs : List Int) (w : World) (h : Ints w a xs) (h' : Ints w b xs) (hl : xs.length = n) (hn : n ≤ 1000) : Calls Tryd.prog 16 #[.slice a n c, .slice b n d] w (Ret (.bool true) w) := by
  have := same_any a b n n c d xs xs w h h' hl hl (by omega) (by omega)
  rw [decide_eq_true rfl] at this
  exact this
theorem pairs_at (a b : Option Addr) (n c d : Nat) (xs : List (Int × Int)) (w : World) (h : Prs w a xs) (h' : Prs w b xs) (hl : xs.length = n) (hn : n ≤ 1000) : Calls Tryd.prog 19 #[.slice a n c, .slice b n d] w (Ret (.bool true) w) := by
  have := pairs_any a b n n c d xs xs w h h' hl hl (by omega) (by omega)
  rw [decide_eq_true rfl] at this
  exact this
def sDots : ByteArray := { data := #[46, 46, 46] }
def sWolf : ByteArray := { data := #[119, 46] }
theorem tE_dots (t : ByteArray) (h : isSide t = true) : tE 3 [3, 5, 6] sDots t = 0 := by
  unfold tE
  rw [show pE 3 [3, 5, 6] sDots = 0 by decide +kernel, h]; rfl
theorem win_dots_w : winS 3 [3, 5, 6] sDots strW = strW := by
  unfold winS
  rw [tE_dots _ (by decide +kernel), if_pos rfl]
  rw [show sd (win (3 : Int).toNat [3, 5, 6] (psB sDots 119 (3 : Int).toNat) (psB sDots 100 (3 : Int).toNat) (sideN strW == 1)) = 0 by decide +kernel]
  rfl
theorem win_dots_d : winS 3 [3, 5, 6] sDots strD = strD := by
  unfold winS
  rw [tE_dots _ (by decide +kernel), if_pos rfl]
  rw [show sd (win (3 : Int).toNat [3, 5, 6] (psB sDots 119 (3 : Int).toNat) (psB sDots 100 (3 : Int).toNat) (sideN strD == 1)) = 1 by decide +kernel]
  rfl
theorem dng_two : dngI 2 [3] sWolf = 2 ∧ pE 2 [3] sWolf = 0 := by decide +kernel
theorem pair_two : prL 2 [3] = [(0, 1)] ∧ prE 2 [3] = 0 := by decide +kernel
theorem need_three : ndI 3 [3, 5, 6] = 1 ∧ ndE 3 [3, 5, 6] = 0 := by decide +kernel
theorem ints_new3 (w : World) (x y z : Int) : Ints (w.alloc (.cells #[.int .i64 x, .int .i64 y, .int .i64 z] 3)) (some ⟨w.heap.size, 0, none⟩) [x, y, z] := by
  obtain ⟨h1, h2, h3⟩ := (Blk.new w 3 #[.int .i64 x, .int .i64 y, .int .i64 z]).c3
  refine .inr ⟨w.heap.size, 0, rfl, fun i hi => ?_⟩
  have hi : i < 3 := hi
  rcases (show i = 0 ∨ i = 1 ∨ i = 2 by omega) with rfl | rfl | rfl
  · exact h1
  · exact h2
  · exact h3
theorem ints_new1 (w : World) (x : Int) : Ints (w.alloc (.cells #[.int .i64 x] 3)) (some ⟨w.heap.size, 0, none⟩) [x] := by
  have h1 := (Blk.new w 3 #[.int .i64 x]).c 0 rfl
  refine .inr ⟨w.heap.size, 0, rfl, fun i hi => ?_⟩
  have hi : i < 1 := hi
  obtain rfl : i = 0 := by omega
  exact h1
theorem prs_new1 (w : World) (x y : Int) : Prs (w.alloc (.cells #[.int .i64 x, .int .i64 y] 58)) (some ⟨w.heap.size, 0, none⟩) [(x, y)] := by
  have h1 := (Blk.new w 58 #[.int .i64 x, .int .i64 y]).c 0 rfl
  have h2 := (Blk.new w 58 #[.int .i64 x, .int .i64 y]).c 1 rfl
  refine .inr ⟨w.heap.size, 0, rfl, fun i hi => ?_⟩
  have hi : i < 1 := hi
  obtain rfl : i = 0 := by omega
  exact ⟨h1, h2⟩
theorem strW_list : strW.toList = [119] := by unfold strW; first | (go_simp; done) | kernel_rfl | (simp; done) | decide
theorem strD_list : strD.toList = [100] := by unfold strD; first | (go_simp; done) | kernel_rfl | (simp; done) | decide
theorem few_any (n c : Nat) (a : Option Addr) (s t : ByteArray) (w : World) : Calls Tryd.prog 10 #[.slice a n c, .string s, .string t] w (Only (.bool (decide (n ≤ 40) && decide (s.size ≤ 40) && decide (t.size ≤ 40))) w) := by
  have e1 : decide ((n : Int) ≤ 40) = decide (n ≤ 40) := by rw [decide_eq_decide]; omega
  have e2 : decide ((s.size : Int) ≤ 40) = decide (s.size ≤ 40) := by rw [decide_eq_decide]; omega
  have e3 : decide ((t.size : Int) ≤ 40) = decide (t.size ≤ 40) := by rw [decide_eq_decide]; omega
  cases h1 : decide (n ≤ 40)
  · rw [h1] at e1
    go_enter Tryd.func10, Tryd.ntmps10
    go_wp2
    all_goals go_ret
    all_goals exact Only.mk rfl
  · cases h2 : decide (s.size ≤ 40)
    · rw [h1] at e1
      rw [h2] at e2
      go_enter Tryd.func10, Tryd.ntmps10
      go_wp2
      all_goals go_ret
      all_goals exact Only.mk rfl
    · rw [h1] at e1
      rw [h2] at e2
      go_enter Tryd.func10, Tryd.ntmps10
      go_wp2
      all_goals go_ret
      all_goals exact Only.mk (by first | rfl | (rw [← e3]; rfl))
set_option maxRecDepth 100000 in
set_option maxHeartbeats 4000000 in
theorem alive_any (w : World) (hT : Tab w) : Calls Tryd.prog 11 #[] w (Ret (.bool true) w) := by
  replace hT := Lib.hid hT
  go_enter Tryd.func11, Tryd.ntmps11
  go_wp2_with fail
  have W1 := Winner_any 3 (some ⟨w.heap.size, 0, none⟩) 3 3 [3, 5, 6] sDots strW _ (ints_new3 w 3 5 6) rfl (hT.out.next (b1 _ _))
  rw [win_dots_w, tE_dots _ (by decide +kernel)] at W1
  refine W1.mono ?_
  rintro e w1 ⟨rfl, hb1⟩
  replace hb1 := Lib.hid (nextB (b1 w _) hb1)
  clear W1
  go_wp2_with fail
  have W2 := Winner_any 3 (some ⟨w1.heap.size, 0, none⟩) 3 3 [3, 5, 6] sDots strD _ (ints_new3 w1 3 5 6) rfl (hT.out.next (nextB hb1.out (b1 _ _)))
  rw [win_dots_d, tE_dots _ (by decide +kernel)] at W2
  refine W2.mono ?_
  rintro e w2 ⟨rfl, hb2⟩
  replace hb2 := Lib.hid (nextB hb1.out (nextB (b1 w1 _) hb2))
  clear W2 hb1
  go_wp2_with fail
  have D := Danger_any 2 (some ⟨w2.heap.size, 0, none⟩) 1 1 [3] sWolf _ (ints_new1 w2 3) rfl
  rw [dng_two.1, dng_two.2] at D
  refine D.mono ?_
  rintro e w3 ⟨rfl, hb3⟩
  replace hb3 := Lib.hid (nextB hb2.out (nextB (b1 w2 _) hb3))
  clear D hb2
  go_wp2_with fail
  have P := Pairing_any 2 (some ⟨w3.heap.size, 0, none⟩) 1 1 [3] _ (ints_new1 w3 3) rfl
  rw [pair_two.1, pair_two.2] at P
  refine P.mono ?_
  rintro e w4 ⟨pa, pc, rfl, hpc, hpr, hb4⟩
  replace hb4 := Lib.hid (nextB hb3.out (nextB (b1 w3 _) hb4))
  replace hpr := Lib.hid hpr
  clear P hb3
  go_wp2_with fail
  have N := Needs_any 3 (some ⟨w4.heap.size, 0, none⟩) 3 3 [3, 5, 6] _ (ints_new3 w4 3 5 6) rfl (hT.out.next (nextB hb4.out (b1 _ _)))
  rw [need_three.1, need_three.2] at N
  refine N.mono ?_
  rintro e w5 ⟨rfl, hb5⟩
  replace hpr := Lib.hid (hpr.out.next (nextB (b1 w4 _) hb5))
  replace hb5 := Lib.hid (nextB hb4.out (nextB (b1 w4 _) hb5))
  clear N hb4
  have q1 := strW_list
  have q2 := strD_list
  have hP1 := Lib.hid (prs_new1 w5 0 1)
  have hP2 := Lib.hid (hpr.out.next (b1 w5 (.cells #[.int .i64 0, .int .i64 1] 58)))
  go_wp2_with (go_at_call 19; refine (pairs_at _ _ 1 _ _ [(0, 1)] _ hP2.out hP1.out rfl (by omega)).mono ?_; rintro e w6 ⟨rfl, hb6⟩)
  go_ret
  exact Ret.mk rfl (nextB hb5.out (nextB (b1 w5 _) hb6))
end Go.Proofs.YtbdhceolchhnjaaDoor
