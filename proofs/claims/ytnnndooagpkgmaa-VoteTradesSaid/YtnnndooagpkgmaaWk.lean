/- Layer 3, by the specification: Rules, Other. -/
import Derived.Test.YtnnndooagpkgmaaWi
import Derived.Test.YtnnndooagpkgmaaWe
import Derived.Test.YtnnndooagpkgmaaWf
namespace Go.Proofs.Ytnnndooagpkgmaa
open Go Go.RowKit

section
variable (a : Option Addr) (n c m : Nat) (R : List Int) (w : World)
theorem refRules_no (x s : Int) (h : Ints w a R) (hl : R.length = m) (hm : m ≤ 1000) (hR : ¬ RuleI x R) :
    Calls Try.prog 31 #[.int .i64 x, .slice a m c, .int .i64 s] w (Ret (errV (.bool false)) w) := by
  have K := Lib.hid (fun W hW => refIsRule_any x a m c R W hW hl hm)
  rw [decide_eq_false hR] at K
  have h := Lib.hid h
  clear hl hR
  go_enter Try.func31, Try.ntmps31
  go_wp2_with (go_at_call 40; refine (K.out _ h.out).mono ?_; rintro e w1 ⟨rfl, hb1⟩)
  go_ret2
  exact Ret.mk rfl hb1
theorem refRules_out (s : Int) (h : Ints w a R) (hl : R.length = m) (hm : m ≤ 1000) (hR : RuleP n R) (hs : ¬ (0 ≤ s ∧ s < ((pw n : Nat) : Int))) :
    Calls Try.prog 31 #[.int .i64 (n : Nat), .slice a m c, .int .i64 s] w (Ret (errV (.bool false)) w) := by
  have K := Lib.hid (fun W hW => refIsRule_any n a m c R W hW hl hm)
  rw [decide_eq_true (show RuleI (n : Int) R from ⟨by have := hR.1; omega, by simpa using hR⟩)] at K
  have h5 := hR.2.1
  have sh := wrap_shl (k := n) (by omega)
  have h := Lib.hid h
  clear hl hR
  generalize pw n = N at *
  by_cases h0 : s < 0
  · clear hs sh
    go_enter Try.func31, Try.ntmps31
    go_wp2_with (go_at_call 40; refine (K.out _ h.out).mono ?_; rintro e w1 ⟨rfl, hb1⟩)
    go_ret2
    exact Ret.mk rfl hb1
  · have h1 : (N : Int) ≤ s := by omega
    clear hs
    go_enter Try.func31, Try.ntmps31
    go_wp2_with (go_at_call 40; refine (K.out _ h.out).mono ?_; rintro e w1 ⟨rfl, hb1⟩)
    go_ret2
    exact Ret.mk rfl hb1
theorem ruled_at (h : Ints w a R) (hl : R.length = m) (hm : m ≤ 1000) (hR : RuleP n R) (s : Nat) (hs : s < pw n) :
    Calls Try.prog 57 #[.slice a m c, .int .i64 (s : Nat)] w (Ret (.bool (hasOne R s)) w) := by
  have hp8 : pw n ≤ 256 := by have := pw_mono (show n ≤ 8 by have := hR.2.1; omega); simpa [pw] using this
  exact (ruled_any a m c s R w h hl hm (by have := hR.2.2.2.sets (k := R.length) (by have := hR.2.1; omega) (Nat.le_refl _); rwa [List.take_length] at this) (by omega)).mono fun _ _ k => k.ret
theorem refRules_yes (s : Nat) (h : Ints w a R) (hl : R.length = m) (hm : m ≤ 1000) (hR : RuleP n R) (hs : s < pw n) :
    Calls Try.prog 31 #[.int .i64 (n : Nat), .slice a m c, .int .i64 (s : Nat)] w (Ret (.tuple #[.bool (hasOne R s), .int .i64 0]) w) := by
  have K := Lib.hid (fun W hW => refIsRule_any n a m c R W hW hl hm)
  rw [decide_eq_true (show RuleI (n : Int) R from ⟨by have := hR.1; omega, by simpa using hR⟩)] at K
  have h5 := hR.2.1
  have hp8 : pw n ≤ 256 := by have := pw_mono (show n ≤ 8 by omega); simpa [pw] using this
  have sh := wrap_shl (k := n) (by omega)
  have V := Lib.hid (fun W hW => ruled_at a n c m R W hW hl hm hR s hs)
  have h := Lib.hid h
  clear hl hR
  generalize pw n = N at *
  have g1 : decide (N ≤ s) = false := decide_eq_false (by omega)
  go_enter Try.func31, Try.ntmps31
  go_wp2_with (first
    | (go_at_call 40; refine (K.out _ h.out).mono ?_; rintro e w1 ⟨rfl, hb1⟩)
    | (go_at_call 57; refine (V.out _ (h.out.next hb1)).mono ?_; rintro e w2 ⟨rfl, hb2⟩))
  go_ret2
  exact Ret.mk rfl (nextB hb1 hb2)
theorem refOther_no (x : Int) (h : Ints w a R) (hl : R.length = m) (hm : m ≤ 1000) (hR : ¬ RuleI x R) :
    Calls Try.prog 33 #[.int .i64 x, .slice a m c] w (Ret (errV (.slice none 0 0)) w) := by
  have K := Lib.hid (fun W hW => refIsRule_any x a m c R W hW hl hm)
  rw [decide_eq_false hR] at K
  have h := Lib.hid h
  clear hl hR
  go_enter Try.func33, Try.ntmps33
  go_wp2_with (go_at_call 40; refine (K.out _ h.out).mono ?_; rintro e w1 ⟨rfl, hb1⟩)
  go_ret2
  exact Ret.mk rfl hb1
end
set_option maxRecDepth 100000 in
set_option maxHeartbeats 8000000 in
theorem refOther_yes (a : Option Addr) (n c m : Nat) (R : List Int) (w : World) (h : Ints w a R) (hl : R.length = m) (hm : m ≤ 1000) (hR : RuleP n R) :
    Calls Try.prog 33 #[.int .i64 (n : Nat), .slice a m c] w (GotI (lN (leastL (othF (hasOne R) n) (pw n))) w) := by
  obtain ⟨i0, hi, hz0, hz1, hz2⟩ := info_parts infoInt
  have G0 := Lib.hid hi
  have G1 := Lib.hid hz0
  have G2 := Lib.hid hz1
  have G3 := Lib.hid hz2
  clear hi hz0 hz1 hz2
  have h5 := hR.2.1
  have hp8 : pw n ≤ 256 := by have := pw_mono (show n ≤ 8 by omega); simpa [pw] using this
  have hp1 : 1 ≤ pw n := pw_pos n
  have K := Lib.hid (fun W hW => refIsRule_any n a m c R W hW hl hm)
  rw [decide_eq_true (show RuleI (n : Int) R from ⟨by have := hR.1; omega, by simpa using hR⟩)] at K
  have gm : Game n (othF (hasOne R) n) := game_oth (game_rule hR)
  have V := Lib.hid (fun W hW s (hs : s < pw n) => ruled_at a n c m R W hW hl hm hR s hs)
  have sh := wrap_shl (k := n) (by omega)
  have hend : Hid (outTo n (othF (hasOne R) n) (pw n) = leastL (othF (hasOne R) n) (pw n)) := Lib.hid (leastL_filter gm _ (Nat.le_refl _)).symm
  have hbeg : Hid (outTo n (othF (hasOne R) n) 1 = []) := Lib.hid (by
    rw [outTo_succ]
    have : isLeast n (othF (hasOne R) n) 0 = false := by unfold isLeast; rw [gm.zero]; rfl
    rw [this]; rfl)
  have hol := Lib.hid (outTo_len n (othF (hasOne R) n))
  obtain ⟨N, hN⟩ : ∃ N, Hid (pw n = N) := ⟨_, Lib.hid rfl⟩
  have hgf := Lib.hid (fun s => (show othF (hasOne R) n s = !(hasOne R (pw n - 1 - s)) from rfl))
  rw [hN.out] at hp8 hp1 V sh hend hgf ⊢
  rw [← hend.out]
  clear gm
  generalize othF (hasOne R) n = f at *
  have h := Lib.hid h
  clear hl hR
  obtain ⟨M, hM⟩ : ∃ M, N = M + 1 := ⟨N - 1, by omega⟩
  have hM1 : IntKind.i64.wrap ((N : Int) - 1) = (M : Int) := by rw [IntWalk.i64_in _ (by omega)]; omega
  have hM2 : (N : Int) - 1 = (M : Int) := by omega
  have hM3 : ∀ s, N - 1 - s = M - s := by omega
  replace hM3 := Lib.hid hM3
  have hMa : M < N := by omega
  have hMb : N ≤ M + 1 := by omega
  clear hM hM2
  generalize hasOne R = P at *
  go_enter Try.func33, Try.ntmps33
  go_wp2_with (go_at_call 40; refine (K.out _ h.out).mono ?_; rintro e w1 ⟨rfl, B1⟩)
  simp only [sh]
  go_loopw [7, 8, 9, 10] (fun v s _ _ wr => ∃ k : Nat, 1 ≤ k ∧ k ≤ N ∧ s = .int .i64 k ∧ wr.ownsRow w.heap.size 3 1 v (lN (outTo n f k)).length (lI (lN (outTo n f k))) ∧ Below w.heap.size w wr) (fun _ s _ _ _ => N - (intOf s).toNat)
  case atStart => exact ⟨1, by omega, by omega, rfl, by rw [hbeg.out]; exact World.ownsRow_nil _ _ _ _, B1⟩
  case round =>
    clear B1
    obtain ⟨k, hk1, hk, rfl, hown, B1⟩ := hrel
    obtain ⟨r, rc, rfl, hrc, hI⟩ := own_intsA hown rfl
    replace hI := Lib.hid hI
    by_cases hlt : k < N
    · clear hrc hI
      have hki : (k : Int) ≤ (M : Int) := by omega
      have hkm : decide (k ≤ M) = true := decide_eq_true (by omega)
      have hst := Lib.hid (outTo_succ n f k)
      have hlk := Lib.hid (hol.out k)
      have V1 := Lib.hid (fun W hW => V.out W hW (M - k) (by omega))
      have V2 := Lib.hid (fun W hW i (hb : k.testBit i = true) => V.out W hW (M - k + pw i) (by have := (sub_test hb).1; omega))
      have hls := Lib.hid (leastTo_succ f k)
      have hlf := Lib.hid (fun i (hi : i ≤ n) (hh : leastTo f k i = false) => leastTo_false hh hi)
      have hl0 : Hid (leastTo f k 0 = f k) := Lib.hid (by simp [leastTo])
      have hln := Lib.hid (leastTo_isLeast n f k)
      have hfk : Hid (f k = !(P (M - k))) := Lib.hid (by rw [hgf.out, hM3.out])
      have hfj := Lib.hid (fun i (hb : k.testBit i = true) => (show f (k - pw i) = !(P (M - k + pw i)) by
        have := (sub_test hb).1
        rw [hgf.out, show N - 1 - (k - pw i) = M - k + pw i by omega]))
      have hsu1 : IntKind.i64.wrap ((M : Int) - (k : Int)) = ((M - k : Nat) : Int) := by rw [IntWalk.i64_in _ (by omega)]; omega
      have hsu2 : (M : Int) - (k : Int) = ((M - k : Nat) : Int) := by omega
      obtain ⟨z, hzz⟩ : ∃ z, Hid (M - k = z) := ⟨_, Lib.hid rfl⟩
      rw [hzz.out] at hsu1 hsu2 V1 V2 hfk hfj
      have hzM : z + k = M := by have := hzz.out; omega
      generalize outTo n f k = L at *
      replace hown := Lib.hid hown
      go_wp2_with (go_at_call 57; refine (V1.out _ (h.out.next B1)).mono ?_; rintro e w2 ⟨rfl, hb2⟩)
      have hown2 := Lib.hid (owns_next hown.out hb2)
      have B2 := nextB B1 hb2
      clear hb2
      rw [← hfk.out, ← hl0.out]
      generalize w2 = w3 at *
      go_loopw [9, 10] (fun t i wr => ∃ j : Nat, j ≤ n ∧ i = .int .i64 j ∧ t = .bool (leastTo f k j) ∧ wr.ownsRow w.heap.size 3 1 (.slice r (lN L).length rc) (lN L).length (lI (lN L)) ∧ Below w.heap.size w wr) (fun _ i _ => n - (intOf i).toNat)
      case atStart => exact ⟨0, by omega, rfl, rfl, hown2.out, B2⟩
      case round =>
        clear B2 hown2 hown
        obtain ⟨j, hj, rfl, rfl, hown, B1⟩ := hrel
        have hlsj := Lib.hid (hls.out j)
        have hlfj := Lib.hid (hlf.out j hj)
        cases g : leastTo f k j
        · have hil := Lib.hid (hlfj.out g)
          rw [hil.out] at hst
          replace g := Lib.hid g
          by_cases hjn : j < n
          · have hji : (j : Int) < (n : Int) := by omega
            have hd : decide (j < n) = true := decide_eq_true hjn
            replace hown := Lib.hid hown
            go_wp2
            go_roundw
            case rel => exact ⟨k + 1, by omega, by omega, by go_num, by rw [hst.out]; exact hown.out, B1⟩
            case measure => simp [intOf]; omega
          · have hd : decide (j < n) = false := decide_eq_false hjn
            replace hown := Lib.hid hown
            go_wp2
            go_roundw
            case rel => exact ⟨k + 1, by omega, by omega, by go_num, by rw [hst.out]; exact hown.out, B1⟩
            case measure => simp [intOf]; omega
        · rw [g] at hlsj
          by_cases hjn : j < n
          · have hji : (j : Int) < (n : Int) := by omega
            have hd : decide (j < n) = true := decide_eq_true hjn
            replace g := Lib.hid g
            replace hown := Lib.hid hown
            have hbt := bt_int k j
            have shj : IntKind.i64.wrap ((2 : Int) ^ j) = ((pw j : Nat) : Int) := by rw [pw_int]; exact wrap_pw (by omega)
            cases hb : k.testBit j
            · rw [bt_zero.2 hb] at hbt
              rw [hb] at hlsj
              replace hb := Lib.hid hb
              replace hlsj : Hid (leastTo f k (j + 1) = true) := Lib.hid (by rw [hlsj.out]; rfl)
              go_wp2
              go_roundw
              case rel => exact ⟨j + 1, by omega, by go_num, by rw [hlsj.out], hown.out, B1⟩
              case measure => simp [intOf]; omega
            · rw [bt_one.2 hb] at hbt
              rw [hb] at hlsj
              have hle := (sub_test hb).1
              have hsub : IntKind.i64.wrap ((z : Int) + ((pw j : Nat) : Int)) = ((z + pw j : Nat) : Int) := by rw [IntWalk.i64_in _ (by omega)]; omega
              have hfjj := hfj.out j hb
              rw [hfjj] at hlsj
              have V3 := Lib.hid (fun W hW => V2.out W hW j hb)
              replace hb := Lib.hid hb
              obtain ⟨u, hu⟩ : ∃ u, Hid (z + pw j = u) := ⟨_, Lib.hid rfl⟩
              rw [hu.out] at hsub V3 hlsj
              cases gu : P u
              all_goals
                rw [gu] at V3 hlsj
                replace gu := Lib.hid gu
                go_wp2_with (go_at_call 57; refine (V3.out _ (h.out.next B1)).mono ?_; rintro e w4 ⟨rfl, hw4⟩)
                have hown3 := Lib.hid (owns_next hown.out hw4)
                go_roundw
                case rel => exact ⟨j + 1, by omega, by go_num, by rw [hlsj.out]; rfl, hown3.out, nextB B1 hw4⟩
                case measure => simp [intOf]; omega
          · obtain rfl : j = n := by omega
            have hd : decide (j < j) = false := decide_eq_false hjn
            rw [hln.out] at g
            rw [g] at hst
            replace g := Lib.hid g
            have hL1 := lN_length L
            have hL2 : (lN L).length ≤ k := by have := hlk.out; omega
            clear hL1
            go_wp2_with (at_builtin; refine wpList_append_own _ rfl _ _ 22 rfl w.heap.size 3 i0 (.int .i64 0) 1 8 Try.underlying22 G0.out G1.out G2.out G3.out rfl (by decide) _ _ _ rfl (hown.alloc _) ⟨_, 0, none⟩ 1 1 [.int .i64 (k : Int)] rfl rfl (cell_one_new _ _ _) (by simp [Value.oneCell']) (by unfold maxLen; omega) (by omega) (by have := B1.size; simp; omega) ?_; intro v' w2 hown2 hgrow _)
            have hsz := B1.size
            have B2 := (B1.alloc hsz _).grown hgrow (by simp; omega) (fun q hq => by have := (hown.lt q hq).1; omega)
            go_roundw
            case rel => exact ⟨k + 1, by omega, by omega, by go_num, by rw [hst.out, if_pos (by trivial), lN_snoc, List.length_append, lI_snoc]; exact hown2, B2⟩
            case measure => simp [intOf]; omega
    · obtain rfl : k = N := by omega
      have hkm : decide (k ≤ M) = false := decide_eq_false (by omega)
      replace hown := Lib.hid hown
      go_wp2_with fail
      go_ret2
      exact ⟨r, rc, rfl, hrc, hI.out, B1⟩
end Go.Proofs.Ytnnndooagpkgmaa
