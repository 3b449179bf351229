/- Layer 8, the law of rounds and ends: the frame. -/
import Derived.Test.YtniknldeafmgaaaPi
namespace Go.Proofs.Ytniknldeafmgaaa
set_option linter.unusedSimpArgs false
set_option linter.unusedVariables false
open Go Go.RowKit

set_option maxRecDepth 100000 in
set_option maxHeartbeats 4000000 in
theorem rounds_bad (a b : Int) (ad : Option Addr) (n c : Nat) (xs : List Int) (w : World) (hI : Ints w ad xs) (hl : xs.length = n) (hn : ad = none → c = 0) (hlen : n ≤ 20) (hS : ¬ StP a b xs) :
    Calls Try.prog 5 #[.int .i64 a, .int .i64 b, .slice ad n c] w (Ret (.bool true) w) := by
  have hlen' : (n : Int) ≤ 20 := by omega
  have hd20 : decide ((20 : Int) < (n : Int)) = false := decide_eq_false (by omega)
  have RF := Lib.hid (fun ad c w h => refRound_no a b xs ad n c w h hl (by omega) hS)
  have PF := Lib.hid (fun ad c w h => Round_no a b xs ad n c w h hl hS)
  have EP := Lib.hid (fun ad c w h => Ends_no a b xs ad n c w h hl hS)
  have ER := Lib.hid (fun ad c w h => refEnds_no a b xs ad n c w h hl (by omega) hS)
  have S1 := Lib.hid (fun w => same_pairs [] 0 rfl (by omega) none none 0 0 w (.inl rfl) (.inl rfl))
  have S3 := Lib.hid (same_xs xs n hl (by omega))
  have hs0 := Lib.hid (World.ownsRow_lit (base := w.heap.size) (e := 3) (size := 1) w #[] 0 (Nat.le_refl _) (by unfold maxLen; omega) rfl)
  have hIo := Lib.hid (hI.next (b1 w (.cells #[] 3)))
  replace hI := Lib.hid hI
  replace hl := Lib.hid hl
  replace hn := Lib.hid hn
  clear hS
  go_enter Try.func5, Try.ntmps5
  go_upto_region 4 with (at_builtin; refine wpList_copy rfl _ _ rfl w.heap.size _ rfl hs0.out _ n c xs rfl hIo.out hl.out hn.out (by omega) (by simp) ?_; intro ao co w1 hown1 hg1 hco hJ)
  have B1 := (b1 w (.cells #[] 3)).grown hg1 (by simp) (fun q hq => by have := (hs0.out.lt q hq).1; omega)
  replace hI := Lib.hid (hI.out.next B1)
  replace hJ := Lib.hid hJ
  have Bw := Lib.hid B1
  clear hs0 hIo hown1 hg1 B1
  go_wp2_with (go_at_call 27; (with_reducible refine (RF.out _ _ _ hI.out).mono ?_); rintro _ w2 ⟨rfl, hw2⟩)
  replace hI := Lib.hid (hI.out.next hw2)
  replace hJ := Lib.hid (hJ.out.next hw2)
  replace Bw := Lib.hid (nextB Bw.out hw2)
  clear hw2 RF
  go_loopw [10] (fun i wr => ∃ t : Nat, t ≤ 2 ∧ i = .int .i64 (t : Int) ∧ Ints wr ad xs ∧ Ints wr ao xs ∧ Below w.heap.size w wr) (fun i _ => 2 - (intOf i).toNat)
  case atStart => exact ⟨0, Nat.zero_le _, rfl, hI.out, hJ.out, Bw.out⟩
  case round =>
    clear hI hJ Bw
    obtain ⟨t, ht, rfl, hI, hJ, Bw⟩ := hrel
    replace hI := Lib.hid hI
    replace hJ := Lib.hid hJ
    replace Bw := Lib.hid Bw
    by_cases hlt : t < 2
    · go_wp2_with (go_at_call 28; (with_reducible refine (PF.out _ _ _ hJ.out).mono ?_); rintro _ w4 ⟨rfl, hw4⟩)
      replace hI := Lib.hid (hI.out.next hw4)
      replace hJ := Lib.hid (hJ.out.next hw4)
      replace Bw := Lib.hid (nextB Bw.out hw4)
      clear hw4
      go_loopw [13] (fun i wq => i = .int .i64 0 ∧ Ints wq ad xs ∧ Ints wq ao xs ∧ Below w.heap.size w wq) (fun i _ => 0)
      case atStart => exact ⟨rfl, hI.out, hJ.out, Bw.out⟩
      case round =>
        clear hI hJ Bw
        obtain ⟨rfl, hI, hJ, Bw⟩ := hrel
        replace hI := Lib.hid hI
        replace hJ := Lib.hid hJ
        replace Bw := Lib.hid Bw
        go_wp2_with (fail)
        go_roundw
        case rel => exact ⟨t + 1, by omega, by go_num, hI.out, hJ.out, Bw.out⟩
        case measure => simp [intOf]; omega
    · obtain rfl : t = 2 := by omega
      go_wp2_with (first
        | (go_at_call 29; (with_reducible refine (EP.out _ _ _ hJ.out).mono ?_); rintro _ w5 ⟨rfl, hb⟩; replace hI := Lib.hid (hI.out.next hb); replace hJ := Lib.hid (hJ.out.next hb); replace Bw := Lib.hid (nextB Bw.out hb); clear hb)
        | (go_at_call 30; (with_reducible refine (ER.out _ _ _ hI.out).mono ?_); rintro _ w6 ⟨rfl, hb⟩; replace hI := Lib.hid (hI.out.next hb); replace hJ := Lib.hid (hJ.out.next hb); replace Bw := Lib.hid (nextB Bw.out hb); clear hb)
        | (go_at_call 31; (with_reducible refine (S1.out _).mono ?_); rintro _ w7 ⟨rfl, hb⟩; replace hI := Lib.hid (hI.out.next hb); replace hJ := Lib.hid (hJ.out.next hb); replace Bw := Lib.hid (nextB Bw.out hb); clear hb)
        | (go_at_call 18; (with_reducible refine (S3.out _ _ _ _ _ hJ.out hI.out).mono ?_); rintro _ w9 ⟨rfl, hb⟩; replace Bw := Lib.hid (nextB Bw.out hb); clear hb)
        | (go_at_call 15; refine (alive_any _).mono ?_; rintro _ w10 ⟨rfl, hw10⟩))
      go_ret
      exact ⟨rfl, nextB Bw.out hw10⟩
set_option maxRecDepth 100000 in
theorem rounds_law (a b : Int) (ad : Option Addr) (n c : Nat) (xs : List Int) (w : World) (hI : Ints w ad xs) (hl : xs.length = n) (_hc : n ≤ c) (hn : ad = none → c = 0) :
    Calls Try.prog 5 #[.int .i64 a, .int .i64 b, .slice ad n c] w (Ret (.bool true) w) := by
  by_cases hlen : 20 < n
  · have hlen' : (20 : Int) < (n : Int) := by omega
    clear hI hl hn _hc
    go_enter Try.func5, Try.ntmps5
    go_wp2_with (go_at_call 15; refine (alive_any _).mono ?_; rintro _ w1 ⟨rfl, hw1⟩)
    go_ret
    exact Ret.mk rfl hw1
  · by_cases hS : StP a b xs
    · obtain ⟨A, B, rfl, rfl, hS2, hx⟩ := hS.parts
      clear hS
      generalize gX xs = g at *
      subst hx
      rw [stL_len] at hl
      subst hl
      obtain ⟨T, hT⟩ := isT_ex hS2
      exact rounds_good A B T g ad c w hS2 hT hI
    · exact rounds_bad a b ad n c xs w hI hl hn (by omega) hS
end Go.Proofs.Ytniknldeafmgaaa
