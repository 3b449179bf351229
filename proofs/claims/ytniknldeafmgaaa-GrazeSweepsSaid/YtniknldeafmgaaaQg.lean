/- Layer 8, the specification: sweep, Sweep. -/
import Derived.Test.YtniknldeafmgaaaQe
import Derived.Test.YtniknldeafmgaaaGh
namespace Go.Proofs.Ytniknldeafmgaaa
set_option linter.unusedSimpArgs false
set_option linter.unusedVariables false
open Go Go.RowKit

set_option maxRecDepth 100000 in
set_option maxHeartbeats 4000000 in
theorem refSweepL_any (a b : Nat) (g : Nat → Nat) (ad : Option Addr) (c : Nat) (w : World) (hs : IsP a b g) (hI : Ints w ad (stL a g)) :
    Calls Try.prog 68 #[.int .i64 (a : Int), .int .i64 (b : Int), .slice ad a c] w (NewS a (sweF a b g) w) := by
  have h1 := hs.a1
  have h6 := hs.a6
  have hb1 := hs.b1
  have hb6 := hs.b6
  have hPr := Lib.hid (fun d n k => swR_P (d := d) (swF_P hs n) k)
  have hlg := Lib.hid (stL_len a g)
  obtain ⟨B0, off0, rfl, _⟩ := ints_at hI (by rw [stL_len]; omega)
  have hs0 := Lib.hid (World.ownsRow_lit (base := w.heap.size) (e := 3) (size := 1) w #[] 0 (Nat.le_refl _) (by unfold maxLen; omega) rfl)
  have hI1 := Lib.hid (hI.next (b1 w (.cells #[] 3)))
  clear hs hI
  go_enter Try.func68, Try.ntmps68
  go_wp2_with (at_builtin; refine wpList_copy rfl _ _ rfl w.heap.size _ rfl hs0.out _ a c (stL a g) rfl hI1.out hlg.out (by simp) (by omega) (by simp) ?_; intro a' c' w' hown' hg' hc' hI')
  have B := Lib.hid ((b1 w (.cells #[] 3)).grown hg' (by simp) (fun q hq => by have := (hs0.out.lt q hq).1; omega))
  replace hI' := Lib.hid hI'
  clear hown' hg' hs0 hI1
  go_loopw [7, 8, 9] (fun v d _ wr => ∃ n : Nat, ∃ y : Int, ∃ av cv, n ≤ a + b - 1 ∧ v = .slice av a cv ∧ d = .int .i64 y ∧ y = 1 - (a : Int) + (n : Int) ∧ Ints wr av (stL a (swF a b g n)) ∧ Below w.heap.size w wr) (fun _ d _ _ => ((b : Int) - intOf d).toNat)
  case atStart => exact ⟨0, _, a', c', Nat.zero_le _, rfl, rfl, by omega, hI'.out, B.out⟩
  case round =>
    clear hI' B
    obtain ⟨n, y, av, cv, hn, rfl, rfl, hy, hIv, B⟩ := hrel
    replace B := Lib.hid B
    by_cases hlt : n < a + b - 1
    · have hyb : y < (b : Int) := by omega
      have hy1 : -5 ≤ y := by omega
      have hs : Hid (swF a b g (n + 1) = swR a b (swF a b g n) y a) := Lib.hid (by rw [hy]; rfl)
      have hPr' := Lib.hid (fun k => hPr.out y n k)
      replace hy := Lib.hid hy
      clear hPr
      obtain ⟨f, hf⟩ : ∃ f, Hid (swF a b g n = f) := ⟨_, Lib.hid rfl⟩
      rw [hf.out] at hIv hPr' hs
      replace hIv := Lib.hid hIv
      go_wp2
      go_loopw [7, 9] (fun v q wr => ∃ k : Nat, ∃ av cv, k ≤ a ∧ v = .slice av a cv ∧ q = .int .i64 (k : Int) ∧ Ints wr av (stL a (swR a b f y k)) ∧ Below w.heap.size w wr) (fun _ q _ => a - (intOf q).toNat)
      case atStart => exact ⟨0, av, cv, Nat.zero_le _, rfl, rfl, hIv.out, B.out⟩
      case round =>
        clear hIv B
        obtain ⟨k, av, cv, hk, rfl, rfl, hIv, B⟩ := hrel
        replace B := Lib.hid B
        replace hIv := Lib.hid hIv
        by_cases hka : k < a
        · have hka' : (k : Int) < (a : Int) := by omega
          have hk6 : (k : Int) < 6 := by omega
          have hP := Lib.hid (hPr'.out k)
          have hyes := Lib.hid (@swR_yes a b f y k)
          have hno := Lib.hid (@swR_no a b f y k)
          generalize hF : swR a b f y k = F at *
          replace hF := Lib.hid hF
          by_cases c1 : (k : Int) + y < 0
          · have e := Lib.hid (hno.out (by unfold HasP; omega))
            clear hyes hno
            go_wp2
            go_roundw
            case rel => exact ⟨k + 1, av, cv, by omega, rfl, by go_num, by rw [e.out]; exact hIv.out, B.out⟩
            case measure => simp [intOf]; omega
          · have c1' : (0 : Int) ≤ (k : Int) + y := by omega
            by_cases c2 : (k : Int) + y < (b : Int)
            · obtain ⟨J, hJ⟩ : ∃ J : Nat, Hid ((k : Int) + y = (J : Int)) := ⟨((k : Int) + y).toNat, Lib.hid (by omega)⟩
              have hH : HasP a b (k : Int) ((k : Int) + y) := by unfold HasP; omega
              have e := hyes.out hH
              have eJ : ((k : Int) + y).toNat = J := by rw [hJ.out]; rfl
              rw [eJ] at e
              replace e := Lib.hid e
              have hT := Lib.hid (fun av cv w h => by have := refTurn_any a b F k J av cv w hP.out h hka (by have := hJ.out; omega); rwa [← hJ.out] at this)
              clear eJ hyes hno hH
              go_wp2_with (go_at_call 56; (with_reducible refine (hT.out _ _ _ hIv.out).mono ?_); rintro _ w3 ⟨a3, c3, rfl, hI3, hw3⟩)
              go_roundw
              case rel => exact ⟨k + 1, a3, c3, by omega, rfl, by go_num, by rw [e.out]; exact hI3, nextB B.out hw3⟩
              case measure => simp [intOf]; omega
            · have c2' : (b : Int) ≤ (k : Int) + y := by omega
              have e := Lib.hid (hno.out (by unfold HasP; omega))
              clear hyes hno
              go_wp2
              go_roundw
              case rel => exact ⟨k + 1, av, cv, by omega, rfl, by go_num, by rw [e.out]; exact hIv.out, B.out⟩
              case measure => simp [intOf]; omega
        · have hka' : (a : Int) ≤ (k : Int) := by omega
          have ek : Hid (k = a) := Lib.hid (by omega)
          go_wp2
          go_roundw
          case rel => exact ⟨n + 1, y + 1, av, cv, by omega, rfl, rfl, by have := hy.out; omega, by have := hIv.out; rw [ek.out] at this; rw [hs.out]; exact this, B.out⟩
          case measure => simp [intOf]; omega
    · have hyb : (b : Int) ≤ y := by omega
      have ek : Hid (n = a + b - 1) := Lib.hid (by omega)
      rw [ek.out] at hIv
      have hsw : Hid (sweF a b g = swF a b g (a + b - 1)) := Lib.hid rfl
      rw [← hsw.out] at hIv
      replace hIv := Lib.hid hIv
      clear hy ek hn hlt hsw
      generalize sweF a b g = h at *
      go_wp2
      go_ret
      exact ⟨av, cv, rfl, hIv.out, B.out⟩
theorem refSweep_yes (a b : Nat) (g : Nat → Nat) (ad : Option Addr) (c : Nat) (w : World) (hs : IsS a b g) (hI : Ints w ad (stL a g)) :
    Calls Try.prog 33 #[.int .i64 (a : Int), .int .i64 (b : Int), .slice ad a c] w (GotS a (sweF a b g) w) := by
  have hA := asked_yes a b g ad c w hs hI
  have hT := Lib.hid (fun w hI => refSweepL_any a b g ad c w hs.p hI)
  replace hI := Lib.hid hI
  clear hs
  go_enter Try.func33, Try.ntmps33
  go_wp2_with (first
    | (go_at_call 48; refine hA.mono ?_; rintro _ w1 ⟨rfl, hw1⟩; replace hI := Lib.hid (hI.out.next hw1))
    | (go_at_call 68; (with_reducible refine (hT.out _ hI.out).mono ?_); rintro _ w2 ⟨a2, c2, rfl, hI2, hw2⟩))
  go_ret2
  exact ⟨_, _, rfl, hI2, nextB hw1 hw2⟩
theorem refSweep_no (a b : Int) (xs : List Int) (ad : Option Addr) (n c : Nat) (w : World) (hI : Ints w ad xs) (hl : xs.length = n) (hn : n ≤ 4611686018427387904) (h : ¬ StP a b xs) :
    Calls Try.prog 33 #[.int .i64 a, .int .i64 b, .slice ad n c] w (ErrL 2 w) := by
  have hA := asked_no a b xs ad n c w hI hl hn h
  clear hI hl h hn
  go_enter Try.func33, Try.ntmps33
  go_wp2_with (go_at_call 48; refine hA.mono ?_; rintro _ w1 ⟨rfl, hw1⟩)
  go_ret2
  exact Ret.mk rfl hw1
end Go.Proofs.Ytniknldeafmgaaa
