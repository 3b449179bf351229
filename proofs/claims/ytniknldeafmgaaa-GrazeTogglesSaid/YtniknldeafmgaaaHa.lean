/- Layer 8, the laws: are two lists the same; Word; what every right program knows. -/
import Derived.Test.YtniknldeafmgaaaGn
import Derived.Test.YtniknldeafmgaaaGi
namespace Go.Proofs.Ytniknldeafmgaaa
set_option linter.unusedSimpArgs false
set_option linter.unusedVariables false
open Go Go.RowKit

set_option maxHeartbeats 800000 in
theorem same_any (a a' : Option Addr) (n n' c c' : Nat) (xs ys : List Int) (w : World) (h : Ints w a xs) (h' : Ints w a' ys) (hn : xs.length = n) (hn' : ys.length = n') (hm : n ≤ 4611686018427387904) (hm' : n' ≤ 4611686018427387904) :
    Calls Try.prog 18 #[.slice a n c, .slice a' n' c'] w (Ret (.bool (decide (xs = ys))) w) := by
  by_cases he : n = n'
  · subst he
    by_cases h0 : n = 0
    · subst h0
      have e : Hid (xs = ys) := by rw [List.eq_nil_of_length_eq_zero hn, List.eq_nil_of_length_eq_zero hn']; exact Lib.hid rfl
      rw [decide_eq_true e.out]
      clear hn hn'
      go_enter Try.func18, Try.ntmps18
      go_wp2
      go_loop [5] (fun i => i = .int .i64 0) (fun i => 0)
      case atStart => rfl
      case round =>
        subst hrel
        go_wp2
        go_ret
        exact Ret.mk rfl (Below.refl _ _)
    · obtain ⟨b, off, rfl, hc⟩ := ints_at h (by omega)
      obtain ⟨b', off', rfl, hc'⟩ := ints_at h' (by omega)
      rw [hn] at hc
      rw [hn'] at hc'
      replace hc := Lib.hid hc
      replace hc' := Lib.hid hc'
      replace hn := Lib.hid hn
      replace hn' := Lib.hid hn'
      clear h h'
      go_enter Try.func18, Try.ntmps18
      go_wp2
      go_loopw [5] (fun i wr => ∃ k : Nat, k ≤ n ∧ i = .int .i64 k ∧ (∀ j, j < k → nth xs j = nth ys j) ∧ Below w.heap.size w wr) (fun i _ => n - (intOf i).toNat)
      case atStart => exact ⟨0, by omega, rfl, fun j hj => absurd hj (by omega), Below.refl _ _⟩
      case round =>
        obtain ⟨k, hk, rfl, hok, B0⟩ := hrel
        replace hok := Lib.hid hok
        by_cases hlt : k < n
        · have x0 := cellX (cellB B0 (hc.out k hlt))
          have y0 := cellX (cellB B0 (hc'.out k hlt))
          have hi0 : (0 : Int) ≤ (k : Int) := by omega
          have hi1 : (k : Int) < (n : Int) := by omega
          go_wp2
          refine wp_region_ext (by kernel_rfl) (by kernel_rfl) ?_
          repeat (go_big_quiet_step (fail))
          refine wpQuiet_nil ?_
          rintro ⟨w1, hw1⟩
          dsimp only
          replace B0 := nextB B0 hw1
          clear x0 y0 hw1
          cases g : (nth xs k != nth ys k)
          · have g' := Lib.hid (show nth xs k = nth ys k by simpa using g)
            go_wp2
            go_roundw
            case rel => exact ⟨k + 1, by omega, by go_num, fun j hj => (by
              by_cases hjk : j = k
              · subst hjk; exact g'.out
              · exact hok.out j (by omega)), B0⟩
            case measure => simp [intOf]; omega
          · have g' := Lib.hid (show nth xs k ≠ nth ys k by simpa using g)
            go_wp2
            go_ret
            exact Ret.mk (ret_dec (by simp only [Bool.false_eq_true, false_iff]; intro e; exact g'.out (by rw [e]))) B0
        · go_wp2
          go_ret
          exact Ret.mk (ret_dec (by simp only [true_iff]; exact ext_nth (hn.out.trans hn'.out.symm) (fun i hi => hok.out i (by rw [hn.out] at hi; omega)))) B0
  · have e : Hid (¬ xs = ys) := Lib.hid (fun e => he (by rw [← hn, ← hn', e]))
    have g : ((n : Int) != (n' : Int)) = true := by rw [bne_iff_ne]; omega
    rw [decide_eq_false e.out]
    clear hn hn' he
    go_enter Try.func18, Try.ntmps18
    go_wp2
    go_ret
    exact Ret.mk rfl (Below.refl _ _)
theorem Word_yes (a b : Nat) (g : Nat → Nat) (ad : Option Addr) (c : Nat) (w : World) (h : IsS a b g) (hI : Ints w ad (stL a g)) :
    Calls Try.prog 34 #[.int .i64 (a : Int), .int .i64 (b : Int), .slice ad a c] w (Ret (.tuple #[.string (bytesOf (wordF a b g)), .int .i64 0]) w) := by
  have hP := pastureOf_yes a b g ad c w h hI
  have hW := Lib.hid (fun w => word_any a b g w h)
  clear h hI
  go_enter Try.func34, Try.ntmps34
  go_upto_region 2 with (go_at_call 57; refine hP.mono ?_; rintro _ w1 ⟨rfl, hw1⟩)
  have k0 := Lib.hid (Blk.new w1 66 (pC a b g))
  have B := Lib.hid (hw1.trans ((b1 w1 (.cells (pC a b g) 66)).mono hw1.size))
  clear hw1 hP
  generalize w1.alloc (.cells (pC a b g) 66) = W at *
  generalize w1.heap.size = D at *
  obtain ⟨p0, p1, p2, p3, p4, p5, p6, p7⟩ := k0.out.pc
  go_wp2_with (go_at_call 69; (with_reducible refine (hW.out _).mono ?_); rintro _ w2 ⟨rfl, hw2⟩)
  go_ret2
  exact Ret.mk rfl (nextB B.out hw2)
theorem Word_no (a b : Int) (xs : List Int) (ad : Option Addr) (n c : Nat) (w : World) (hI : Ints w ad xs) (hl : xs.length = n) (h : ¬ StP a b xs) :
    Calls Try.prog 34 #[.int .i64 a, .int .i64 b, .slice ad n c] w (Ret (.tuple #[.string ⟨#[]⟩, .int .i64 2]) w) := by
  have hP := pastureOf_no a b xs ad n c w hI hl h
  clear h hI hl
  go_enter Try.func34, Try.ntmps34
  go_wp2_with (go_at_call 57; refine hP.mono ?_; rintro _ w1 ⟨rfl, hw1⟩)
  go_ret2
  exact Ret.mk rfl (hw1.trans ((b1 w1 _).mono hw1.size))
theorem stP2 (x y : Int) (h : 0 ≤ y ∧ y ≤ x ∧ x ≤ 2) : StP 2 2 [x, y] := by
  refine ⟨⟨by unfold SzP; omega, rfl⟩, fun i hi => ?_⟩
  have hi2 : i < 2 := hi
  rcases (show i = 0 ∨ i = 1 by omega) with rfl | rfl
  · show 0 ≤ x ∧ x ≤ 2
    omega
  · show 0 ≤ y ∧ y ≤ x
    omega
theorem st2 (x y : Int) (h : 0 ≤ y ∧ y ≤ x ∧ x ≤ 2) : IsS 2 2 (gX [x, y]) ∧ stL 2 (gX [x, y]) = [x, y] := by
  obtain ⟨A, B, hA, hB, h1, h2⟩ := (stP2 x y h).parts
  obtain rfl : A = 2 := by omega
  obtain rfl : B = 2 := by omega
  exact ⟨h1, h2.symm⟩
/-- Two numbers and no error were returned. -/
def Got2 (x y : Int) (w : World) (e : Ending) (w' : World) : Prop := ∃ a c, e = .returned (.tuple #[.slice a 2 c, .int .i64 0]) ∧ Ints w' a [x, y] ∧ Below w.heap.size w w'
theorem CopyE.two {x y : Int} {w w' : World} {e : Ending} (h : CopyE [x, y] w e w') : Got2 x y w e w' := by
  obtain ⟨a, c, h1, _, h2, h3⟩ := h.got
  exact ⟨a, c, h1, h2, h3⟩
theorem day10 (ad : Option Addr) (c : Nat) (w : World) (hI : Ints w ad [1, 0]) : Calls Try.prog 16 #[.int .i64 2, .int .i64 2, .slice ad 2 c] w (Got2 2 1 w) := by
  obtain ⟨h1, h2⟩ := st2 1 0 (by omega)
  refine (Day_yes 2 2 _ ad c w h1 (by rw [h2]; exact hI)).mono fun e w' h => ?_
  rw [show stL 2 (dayF 2 2 (gX [1, 0])) = [2, 1] by decide] at h
  exact h.two
theorem back00 (ad : Option Addr) (c : Nat) (w : World) (hI : Ints w ad [0, 0]) : Calls Try.prog 19 #[.int .i64 2, .int .i64 2, .slice ad 2 c] w (Got2 2 2 w) := by
  obtain ⟨h1, h2⟩ := st2 0 0 (by omega)
  refine (Back_yes 2 2 _ ad c w h1 (by rw [h2]; exact hI)).mono fun e w' h => ?_
  rw [show stL 2 (bakF 2 2 (gX [0, 0])) = [2, 2] by decide] at h
  exact h.two
theorem sweep10 (ad : Option Addr) (c : Nat) (w : World) (hI : Ints w ad [1, 0]) : Calls Try.prog 32 #[.int .i64 2, .int .i64 2, .slice ad 2 c] w (Got2 2 1 w) := by
  obtain ⟨h1, h2⟩ := st2 1 0 (by omega)
  refine (Sweep_yes 2 2 _ ad c w h1 (by rw [h2]; exact hI)).mono fun e w' h => ?_
  rw [show stL 2 (sweF 2 2 (gX [1, 0])) = [2, 1] by decide +kernel] at h
  exact h.two
theorem word10 (ad : Option Addr) (c : Nat) (w : World) (hI : Ints w ad [1, 0]) : Calls Try.prog 34 #[.int .i64 2, .int .i64 2, .slice ad 2 c] w (Ret (.tuple #[.string ⟨#[117, 114, 117, 114]⟩, .int .i64 0]) w) := by
  obtain ⟨h1, h2⟩ := st2 1 0 (by omega)
  have := Word_yes 2 2 _ ad c w h1 (by rw [h2]; exact hI)
  rw [show wordF 2 2 (gX [1, 0]) = [117, 114, 117, 114] by decide] at this
  exact this
theorem same222 (w : World) : Calls Try.prog 38 #[.int .i64 2, .int .i64 2, .int .i64 2] w (Ret (.tuple #[.int .i64 2, .int .i64 0]) w) := by
  have := Same_yes 2 2 2 w (by omega) (by omega)
  rw [show sameN 2 2 (dmod 2 2 2) = 2 by decide +kernel] at this
  exact this
theorem cell_two_new (w : World) (x y : Int) (i : Nat) (hi : i < 2) : (w.alloc (.cells #[.int .i64 x, .int .i64 y] 3)).cell? ⟨w.heap.size, 0 + i, none⟩ = some (.int .i64 (nth [x, y] i)) := by
  rw [Nat.zero_add]
  rcases (show i = 0 ∨ i = 1 by omega) with rfl | rfl
  · exact (Blk.new w _ _).c 0 rfl
  · exact (Blk.new w _ _).c 1 rfl
theorem lit_two (w : World) (x y : Int) : Ints (w.alloc (.cells #[.int .i64 x, .int .i64 y] 3)) (some ⟨w.heap.size, 0, none⟩) [x, y] := .inr ⟨_, 0, rfl, fun i hi => cell_two_new w x y i hi⟩
theorem same_two (a a' : Option Addr) (c c' : Nat) (x y : Int) (w : World) (h : Ints w a [x, y]) (h' : Ints w a' [x, y]) : Calls Try.prog 18 #[.slice a 2 c, .slice a' 2 c'] w (Ret (.bool true) w) := by
  have := same_any a a' 2 2 c c' [x, y] [x, y] w h h' rfl rfl (by omega) (by omega)
  rwa [decide_eq_true rfl] at this
end Go.Proofs.Ytniknldeafmgaaa
