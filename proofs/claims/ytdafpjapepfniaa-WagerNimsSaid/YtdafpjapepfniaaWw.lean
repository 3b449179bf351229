/- Layer 7, the laws: are two lists the same; what every right program knows. -/
import Derived.Test.YtdafpjapepfniaaWv
import Derived.Test.YtdafpjapepfniaaWd
namespace Go.Proofs.Ytdafpjapepfniaa
set_option linter.unusedSimpArgs false
set_option linter.unusedVariables false
open Go Go.RowKit

set_option maxHeartbeats 800000 in
theorem same_any (a a' : Option Addr) (n n' c c' : Nat) (xs ys : List Int) (w : World) (h : Ints w a xs) (h' : Ints w a' ys) (hn : xs.length = n) (hn' : ys.length = n') (hm : n ≤ 4611686018427387904) (hm' : n' ≤ 4611686018427387904) :
    Calls Try.prog 18 #[.slice a n c, .slice a' n' c'] w (Ret (.bool (decide (xs = ys))) w) := by
  by_cases he : n = n'
  · subst he
    by_cases h0 : n = 0
    · subst h0
      have e : Hid (xs = ys) := by rw [List.eq_nil_of_length_eq_zero hn, List.eq_nil_of_length_eq_zero hn']; exact Lib.hid rfl
      rw [decide_eq_true e.out]
      clear hn hn'
      go_enter Try.func18, Try.ntmps18
      go_wp2
      go_loop [5] (fun i => i = .int .i64 0) (fun i => 0)
      case atStart => rfl
      case round =>
        subst hrel
        go_wp2
        go_ret
        exact Ret.mk rfl (Below.refl _ _)
    · obtain ⟨b, off, rfl, hc⟩ := ints_at h (by omega)
      obtain ⟨b', off', rfl, hc'⟩ := ints_at h' (by omega)
      rw [hn] at hc
      rw [hn'] at hc'
      replace hc := Lib.hid hc
      replace hc' := Lib.hid hc'
      replace hn := Lib.hid hn
      replace hn' := Lib.hid hn'
      clear h h'
      go_enter Try.func18, Try.ntmps18
      go_wp2
      go_loopw [5] (fun i wr => ∃ k : Nat, k ≤ n ∧ i = .int .i64 k ∧ (∀ j, j < k → nth xs j = nth ys j) ∧ Below w.heap.size w wr) (fun i _ => n - (intOf i).toNat)
      case atStart => exact ⟨0, by omega, rfl, fun j hj => absurd hj (by omega), Below.refl _ _⟩
      case round =>
        obtain ⟨k, hk, rfl, hok, B0⟩ := hrel
        replace hok := Lib.hid hok
        by_cases hlt : k < n
        · have x0 := cellX (cellB B0 (hc.out k hlt))
          have y0 := cellX (cellB B0 (hc'.out k hlt))
          have hi0 : (0 : Int) ≤ (k : Int) := by omega
          have hi1 : (k : Int) < (n : Int) := by omega
          go_wp2
          refine wp_region_ext (by kernel_rfl) (by kernel_rfl) ?_
          repeat (go_big_quiet_step (fail))
          refine wpQuiet_nil ?_
          rintro ⟨w1, hw1⟩
          dsimp only
          replace B0 := nextB B0 hw1
          clear x0 y0 hw1
          cases g : (nth xs k != nth ys k)
          · have g' := Lib.hid (show nth xs k = nth ys k by simpa using g)
            go_wp2
            go_roundw
            case rel => exact ⟨k + 1, by omega, by go_num, fun j hj => (by
              by_cases hjk : j = k
              · subst hjk; exact g'.out
              · exact hok.out j (by omega)), B0⟩
            case measure => simp [intOf]; omega
          · have g' := Lib.hid (show nth xs k ≠ nth ys k by simpa using g)
            go_wp2
            go_ret
            exact Ret.mk (ret_dec (by simp only [Bool.false_eq_true, false_iff]; intro e; exact g'.out (by rw [e]))) B0
        · go_wp2
          go_ret
          exact Ret.mk (ret_dec (by simp only [true_iff]; exact ext_nth (hn.out.trans hn'.out.symm) (fun i hi => hok.out i (by rw [hn.out] at hi; omega)))) B0
  · have e : Hid (¬ xs = ys) := Lib.hid (fun e => he (by rw [← hn, ← hn', e]))
    have g : ((n : Int) != (n' : Int)) = true := by rw [bne_iff_ne]; omega
    rw [decide_eq_false e.out]
    clear hn hn' he
    go_enter Try.func18, Try.ntmps18
    go_wp2
    go_ret
    exact Ret.mk rfl (Below.refl _ _)
theorem qs32 : qs 3 2 = [1, 2] := by
  have e1 : qs 3 2 = 3 / 2 :: qs 2 (3 % 2) := qs_pos (by decide)
  have e2 : qs 2 1 = 2 / 1 :: qs 1 (2 % 1) := qs_pos (by decide)
  have e3 : qs 1 0 = [] := qs_zero 1
  rw [e1, show 3 % 2 = 1 from rfl, e2, show 2 % 1 = 0 from rfl, e3]
theorem zx11 : fI (zx 11) = [8, 3] := by decide +kernel
theorem nim11 : nimV 11 10 = numV 3 0 := by
  have h1 : nimW 11 10 = true := by decide +kernel
  have h2 : tl 11 = 3 := by decide +kernel
  unfold nimV
  rw [h1, h2]; rfl
theorem hcw32 : hcw 3 2 = false := by rw [hcw_ge (by decide), qs32]; rfl
theorem euc72 : eucV 7 2 = twoV 3 2 0 := by
  have e : eucO 7 2 = some 2 := if_pos ⟨by decide, hcw32⟩
  have e2 : eucR 7 2 = some ⟨3, 2, 0, 0, 0, 0, 0⟩ := by
    unfold eucR
    rw [if_neg (by decide), show max 7 2 = 7 from rfl, show min 7 2 = 2 from rfl, e]
    rfl
  unfold eucV
  rw [e2]
theorem lost23 : (lostL 2 3).length = 3 ∧ fAt (lostL 2 3) 2 0 = 3 ∧ fAt (lostL 2 3) 2 1 = 2 := by decide +kernel
theorem first22 : firV (fuF 2 2) = twoV 1 1 0 := by
  have e : (winP (fuF 2 2)).head? = some (1, 1) := by decide +kernel
  unfold firV
  rw [e]; rfl
/-- Two numbers and no error were returned. -/
def Got2 (x y : Int) (w : World) (e : Ending) (w' : World) : Prop := ∃ a c, e = .returned (.tuple #[.slice a 2 c, .int .i64 0]) ∧ Ints w' a [x, y] ∧ Below w.heap.size w w'
theorem parts11 (w : World) : Calls Try.prog 16 #[.int .i64 11] w (Got2 8 3 w) :=
  (Parts_yes 11 w (by decide)).mono fun e w' h => by
    rw [zx11] at h
    obtain ⟨a, c, h1, _, h2, h3⟩ := h
    exact ⟨a, c, h1, h2, h3⟩
theorem steps32 (w : World) : Calls Try.prog 26 #[.int .i64 3, .int .i64 2] w (Got2 1 2 w) :=
  (Steps_yes 3 2 w (by decide) (by decide)).mono fun e w' h => by
    rw [show max 3 2 = 3 from rfl, show min 3 2 = 2 from rfl, qs32] at h
    obtain ⟨a, c, h1, _, h2, h3⟩ := h
    exact ⟨a, c, h1, h2, h3⟩
theorem nim1110 (w : World) : Calls Try.prog 19 #[.int .i64 11, .int .i64 10] w (Ret (numV 3 0) w) := by
  have := Nim_yes 11 10 w (by decide) (by decide)
  rwa [nim11] at this
theorem euclid72 (w : World) : Calls Try.prog 24 #[.int .i64 7, .int .i64 2] w (Ret (twoV 3 2 0) w) := by
  have := Euclid_yes 7 2 w (by decide) (by decide)
  rwa [euc72] at this
theorem firstTwo (w : World) : Calls Try.prog 34 #[.int .i64 2, .int .i64 2] w (Ret (twoV 1 1 0) w) := by
  have := First_yes 2 2 w (by decide) (by decide) (by decide) (by decide) (by decide)
  rwa [first22] at this
def Got23 (w : World) (e : Ending) (w' : World) : Prop := ∃ g cap a c, e = .returned (.tuple #[.slice (some ⟨g, 0, none⟩) 3 cap, .int .i64 0]) ∧ w'.cell? ⟨g, 2, none⟩ = some (.slice a 2 c) ∧ Ints w' a [3, 2] ∧ Below w.heap.size w w'
theorem lostTwo (w : World) : Calls Try.prog 33 #[.int .i64 2, .int .i64 3] w (Got23 w) :=
  (Lost_yes 2 3 w (by decide) (by decide) (by decide) (by decide) (by decide)).mono fun e w' ⟨v, G, h1, h2, h3, h4, h5⟩ => by
    obtain ⟨q1, q2, q3⟩ := lost23
    rw [q1] at h2
    rw [h2] at h3
    obtain ⟨g, cap, rfl⟩ := own_pos h3 (by omega)
    refine ⟨g, cap, some ⟨(gth G 2).1, 0, none⟩, (gth G 2).2, h1, ?_, ?_, h5⟩
    · have := h3.cellAt 2 (by omega)
      rw [rowsV_get (by omega)] at this
      exact this
    · have h6 := (h4.1 2 (by omega)).2.2
      refine .inr ⟨_, 0, rfl, fun i hi => ?_⟩
      have hi2 : i < 2 := hi
      rw [Nat.zero_add, h6 i hi2]
      rcases (show i = 0 ∨ i = 1 by omega) with rfl | rfl
      · rw [q2]; rfl
      · rw [q3]; rfl
theorem lit_two (w : World) (x y : Int) : Ints (w.alloc (.cells #[.int .i64 x, .int .i64 y] 3)) (some ⟨w.heap.size, 0, none⟩) [x, y] := .inr ⟨_, 0, rfl, fun i hi => cell_two_new w x y i hi⟩
theorem same_two (a a' : Option Addr) (c c' : Nat) (x y : Int) (w : World) (h : Ints w a [x, y]) (h' : Ints w a' [x, y]) : Calls Try.prog 18 #[.slice a 2 c, .slice a' 2 c'] w (Ret (.bool true) w) := by
  have := same_any a a' 2 2 c c' [x, y] [x, y] w h h' rfl rfl (by omega) (by omega)
  rwa [decide_eq_true rfl] at this
set_option maxRecDepth 100000 in
set_option maxHeartbeats 4000000 in
theorem alive_any (w : World) : Calls Try.prog 23 #[] w (Ret (.bool true) w) := by
  go_enter Try.func23, Try.ntmps23
  go_wp2_with (first
    | (go_at_call 16; refine (parts11 _).mono ?_; rintro e w1 ⟨a1, c1, rfl, hI1, hb1⟩; replace hI1 := Lib.hid hI1; replace hb1 := Lib.hid hb1)
    | (go_at_call 19; refine (nim1110 _).mono ?_; rintro e w2 ⟨rfl, hb2⟩; replace hI1 := Lib.hid (hI1.out.next hb2); replace hb2 := Lib.hid (nextB hb1.out hb2))
    | (go_at_call 24; refine (euclid72 _).mono ?_; rintro e w3 ⟨rfl, hb3⟩; replace hI1 := Lib.hid (hI1.out.next hb3); replace hb3 := Lib.hid (nextB hb2.out hb3))
    | (go_at_call 26; refine (steps32 _).mono ?_; rintro e w4 ⟨a4, c4, rfl, hI4, hb4⟩; replace hI1 := Lib.hid (hI1.out.next hb4); replace hI4 := Lib.hid hI4; replace hb4 := Lib.hid (nextB hb3.out hb4))
    | (go_at_call 33; refine (lostTwo _).mono ?_; rintro e w5 ⟨g5, cap5, a5, c5, rfl, hc5, hI5, hb5⟩; replace hI1 := Lib.hid (hI1.out.next hb5); replace hI4 := Lib.hid (hI4.out.next hb5); replace hI5 := Lib.hid hI5; replace hc5 := Lib.hid hc5; replace hb5 := Lib.hid (nextB hb4.out hb5))
    | (go_at_call 34; refine (firstTwo _).mono ?_; rintro e w6 ⟨rfl, hb6⟩; replace hI1 := Lib.hid (hI1.out.next (nextB hb6 (b1 _ (.cells #[.int .i64 8, .int .i64 3] 3)))); replace hI4 := Lib.hid (hI4.out.next hb6); replace hI5 := Lib.hid (hI5.out.next hb6); have hc5 := Lib.hid (cellB hb6 hc5.out); replace hb6 := Lib.hid (nextB hb5.out hb6); have hS1 := Lib.hid (same_two a1 _ c1 2 8 3 _ hI1.out (lit_two w6 8 3)))
    | (go_at_call 18; refine hS1.out.mono ?_; rintro e w7 ⟨rfl, hb7⟩; clear hS1))
  have hx7 := nextB (b1 w6 (.cells #[.int .i64 8, .int .i64 3] 3)) hb7
  have hI4 := Lib.hid ((hI4.out.next hx7).next (b1 w7 (.cells #[.int .i64 1, .int .i64 2] 3)))
  have hI5 := Lib.hid (hI5.out.next hx7)
  have hc7 := Lib.hid (cellB hx7 hc5.out)
  have hb7' := Lib.hid (nextB hb6.out hx7)
  clear hc5 hx7 hb7 hI1
  refine (same_two a4 _ c4 2 1 2 _ hI4.out (lit_two w7 1 2)).mono ?_
  rintro e w8 ⟨rfl, hb8⟩
  have hx8 := nextB (b1 w7 (.cells #[.int .i64 1, .int .i64 2] 3)) hb8
  have hI5 := Lib.hid ((hI5.out.next hx8).next (b1 w8 (.cells #[.int .i64 3, .int .i64 2] 3)))
  have hc8 := cellB hx8 hc7.out
  have hb8' := Lib.hid (nextB hb7'.out hx8)
  clear hx8 hb8 hI4
  go_wp2_with (go_at_call 18; refine (same_two a5 _ c5 2 3 2 _ hI5.out (lit_two w8 3 2)).mono ?_; rintro e w9 ⟨rfl, hb9⟩)
  go_ret
  exact Ret.mk rfl (nextB (nextB hb8'.out (b1 w8 (.cells #[.int .i64 3, .int .i64 2] 3))) hb9)
end Go.Proofs.Ytdafpjapepfniaa
