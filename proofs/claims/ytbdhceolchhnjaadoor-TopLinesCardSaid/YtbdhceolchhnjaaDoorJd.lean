/- Layers 3 and 4: mathematics for TopLines: a position with every spot held; a rule is the list of its own least lines. Layers 3 and 4: TopLines returns true, and changes nothing. -/
import Derived.Test.YtbdhceolchhnjaaDoorIa
namespace Go.Proofs.YtbdhceolchhnjaaDoor
section
open Go Go.RowKit

/-- The letter at a spot: a wolf in the set, else a dog. -/
def wdB (s i : Nat) : Nat := if bt s i = 1 then 119 else 100
/-- A position with every spot held. -/
def wdS (m s : Nat) : ByteArray := ⟨((List.range m).map fun i => UInt8.ofNat (wdB s i)).toArray⟩
theorem wdS_size (m s : Nat) : (wdS m s).size = m := by
  show (((List.range m).map fun i => UInt8.ofNat (wdB s i)).toArray).size = m
  simp
theorem wdB_lt (s i : Nat) : wdB s i < 256 := by unfold wdB; split <;> omega
theorem wdS_at {m s i : Nat} (h : i < m) : bytA (wdS m s) i = wdB s i := by
  rw [bytA_of (by rw [wdS_size]; exact h)]
  show (((List.range m).map fun i => UInt8.ofNat (wdB s i)).getD i 0).toNat = wdB s i
  rw [List.getD_eq_getElem?_getD, List.getElem?_map, List.getElem?_range h]
  have := wdB_lt s i
  show (UInt8.ofNat (wdB s i)).toNat = wdB s i
  rw [UInt8.toNat_ofNat']
  omega
def cD (s m k : Nat) : Array Value := (Array.range m).map fun i => .int .u8 (if i < k then (wdB s i : Nat) else 0)
theorem cD_size (s m k : Nat) : (cD s m k).size = m := by simp [cD]
theorem cD_get {s m k i : Nat} (h : i < m) : (cD s m k)[i]? = some (.int .u8 (if i < k then (wdB s i : Nat) else 0)) := by simp [cD, h]
theorem cD_set (s m k : Nat) (_hk : k < m) (v : Value) : ((cD s m k).setIfInBounds k v).setIfInBounds k (.int .u8 (wdB s k : Nat)) = cD s m (k + 1) := by
  apply Array.ext
  · simp [cD]
  · intro i h1 h2
    simp only [Array.size_setIfInBounds, cD_size] at h1
    rw [Array.getElem_setIfInBounds (by simp [cD_size]; exact h1)]
    by_cases e : k = i
    · subst e; simp [cD]
    · rw [if_neg e, Array.getElem_setIfInBounds (by rw [cD_size]; exact h1), if_neg e]
      have : (i < k + 1) = (i < k) := by rw [eq_iff_iff]; omega
      simp only [cD, Array.getElem_map, Array.getElem_range, this]
theorem cD_one (s m k : Nat) (hk : k < m) : (cD s m k).setIfInBounds k (.int .u8 (wdB s k : Nat)) = cD s m (k + 1) := by
  rw [← cD_set s m k hk (.int .u8 (wdB s k : Nat))]
  simp
theorem cD_zero (s m : Nat) : cE m 0 = cD s m 0 := by
  unfold cE cD
  simp
theorem wd_W {m s : Nat} (hs : s < pw m) : psB (wdS m s) 119 m = s := by
  apply Nat.eq_of_testBit_eq
  intro i
  rw [psB_test]
  by_cases hi : i < m
  · rw [wdS_at hi]
    unfold wdB
    by_cases e : bt s i = 1
    · rw [if_pos e, bt_one.1 e]; simp [hi]
    · have h0 : bt s i = 0 := by have := bt_lt s i; omega
      rw [if_neg e, bt_zero.1 h0]; simp
  · rw [Nat.testBit_lt_two_pow (Nat.lt_of_lt_of_le hs (pw_mono (show m ≤ i by omega)))]
    simp [hi]
theorem all_bit {n s i : Nat} (hs : s < pw n) : (pw n - 1 - s).testBit i = (decide (i < n) && !(s.testBit i)) := by
  unfold pw at *
  rw [show 2 ^ n - 1 - s = 2 ^ n - (s + 1) by omega, Nat.testBit_two_pow_sub_succ hs]
theorem wd_D {m s : Nat} (hs : s < pw m) : psB (wdS m s) 100 m = pw m - 1 - s := by
  apply Nat.eq_of_testBit_eq
  intro i
  rw [psB_test, all_bit hs]
  by_cases hi : i < m
  · rw [wdS_at hi]
    unfold wdB
    by_cases e : bt s i = 1
    · rw [if_pos e, bt_one.1 e]; simp
    · have h0 : bt s i = 0 := by have := bt_lt s i; omega
      rw [if_neg e, bt_zero.1 h0]; simp [hi]
  · simp [hi]
theorem wd_ok (m s : Nat) : okS (wdS m s) = true := okS_of fun i hi => by
  rw [wdS_size] at hi
  rw [wdS_at hi]
  unfold wdB
  split <;> omega
theorem wd_full {m s : Nat} (hs : s < pw m) : frL m s (pw m - 1 - s) = [] := by
  rw [List.eq_nil_iff_forall_not_mem]
  intro i hi
  obtain ⟨h1, h2, h3⟩ := frL_mem.1 hi
  rw [all_bit hs, h2] at h3
  simp [h1] at h3
theorem oth_len (n : Nat) (R : List Int) : (othL n R).length ≤ pw n := by
  unfold othL
  rw [Vo.lN_length]
  exact Vo.leastL_len _ _
theorem rule_at {R : List Int} {k : Nat} (h : k < R.length) : nth R k = R[k] := by simp [nth, h]
theorem rule_lt {n : Nat} {R : List Int} (h : Vo.RuleP n R) (i : Nat) : ∀ j, i < j → j < R.length → nth R i < nth R j := by
  intro j
  induction j with
  | zero => intro h1; omega
  | succ j ih =>
    intro h1 h2
    have h3 := (h.2.2.2 (j + 1) h2).2.2.1 (by omega)
    rw [Nat.add_sub_cancel] at h3
    have h4 : nth R j < nth R (j + 1) := h3
    by_cases e : i = j
    · subst e; exact h4
    · have h5 := ih (by omega) (by omega)
      exact Int.lt_trans h5 h4
theorem keepL_rule {n : Nat} {R : List Int} (h : Vo.RuleP n R) : ∀ k, k ≤ R.length → keepL [] (R.take k) = R.take k := by
  intro k
  induction k with
  | zero => intro _; rfl
  | succ k ih =>
    intro hk
    have h1 := ih (by omega)
    have h2 : hasOne (R.take k) (nth R k).toNat = false := (h.2.2.2 k (by omega)).2.2.2
    rw [rule_at (by omega)] at h2
    rw [List.take_succ_eq_append_getElem (by omega), keepL_snoc, h1, h2]
    rfl
theorem rule_self {n : Nat} {R : List Int} (h : Vo.RuleP n R) : lNi (lqTo R (pw n)) = R := by
  have h1 := keepL_rule h R.length (Nat.le_refl _)
  rw [List.take_length] at h1
  rw [← keepL_of (L := R) (S := R) (N := pw n) (List.Perm.refl _) ?_ ?_]
  · exact h1
  · rw [List.pairwise_iff_getElem]
    intro i j hi hj hij
    have := rule_lt h i j hij hj
    rw [rule_at hi, rule_at hj] at this
    omega
  · intro x hx
    obtain ⟨i, hi, rfl⟩ := List.getElem_of_mem hx
    have h2 := (h.2.2.2 i hi).1
    have h3 := (h.2.2.2 i hi).2.1
    have e : nth R i = R[i] := rule_at hi
    rw [e] at h2 h3
    omega
end
section
open Go Go.RowKit

set_option maxRecDepth 100000 in
set_option maxHeartbeats 8000000 in
theorem topLines_any (x : Int) (a : Option Addr) (m c : Nat) (R : List Int) (sp : Nat) (w : World) (h : Ints w a R) (hl : R.length = m) (hmc : m ≤ c) (_hnil : a = none → c = 0) (hsp : sp ≤ 255) (hT : Tab w) :
    Calls Tryd.prog 8 #[.int .i64 x, .slice a m c, .int .u8 (sp : Nat)] w (Ret (.bool true) w) := by
  have V := Lib.hid (fun W (hW : Below w.heap.size w W) => voted_any W (hT.next hW))
  have hT' := Lib.hid (fun W (hW : Below w.heap.size w W) => hT.next hW)
  have B00 : Below w.heap.size w w := Below.refl _ _
  by_cases h12 : m ≤ 12
  · have IR := Lib.hid (Vo.refIsRule_any x a m c R w h hl (by omega))
    by_cases hR : Vo.RuleI x R
    · rw [decide_eq_true hR] at IR
      obtain ⟨hx, hP⟩ := hR
      obtain ⟨n, rfl⟩ : ∃ n : Nat, x = (n : Int) := ⟨x.toNat, by omega⟩
      rw [Int.toNat_natCast] at hP
      have h1 := hP.1
      have h5 := hP.2.1
      have hF := rule_field hP (by omega)
      have hPO := othL_rule hP
      have OT := Lib.hid (fun W (hW : Below w.heap.size w W) => (show Calls Tryd.prog 38 #[.int .i64 (n : Nat), .slice a m c] W (Vo.GotI (othL n R) W) from Vo.Other_yes a n c m R W (h.next hW) hl (by omega) hmc hP))
      have hp9 : pw n ≤ 32 := by have := pw_mono h5; have h4 : pw 5 = 32 := rfl; omega
      have hpp := pw_pos n
      obtain ⟨s, hsv⟩ : ∃ sv, sp % pw n = sv := ⟨_, rfl⟩
      have hsl : s < pw n := by rw [← hsv]; exact Nat.mod_lt _ hpp
      have hrem : (sp : Int).tmod ((pw n : Nat) : Int) = (s : Int) := by rw [Int.tmod_eq_emod_of_nonneg (by omega), ← hsv]; exact (Int.natCast_emod _ _).symm
      have hcv : IntKind.i64.wrap (sp : Int) = (sp : Int) := IntWalk.i64_in _ (by omega)
      have sh := wrap_shl (k := n) (by omega)
      have hmin : min n 64 = n := by omega
      have hpz : (((pw n : Nat) : Int) == 0) = false := by rw [beq_eq_false_iff_ne]; omega
      obtain ⟨b, hb⟩ : ∃ b, hasOne R s = b := ⟨_, rfl⟩
      have R1 := Lib.hid (fun W (hW : Below w.heap.size w W) => (show Calls Tryd.prog 37 #[.int .i64 (n : Nat), .slice a m c, .int .i64 (s : Nat)] W (Ret (.tuple #[.bool b, .int .i64 0]) W) from by
        have := Vo.Rules_yes a n c W m s R (h.next hW) hl (by omega) hmc hP hsl
        rw [show Vo.hasOne R s = b from hb] at this
        exact this))
      have R2 := Lib.hid (fun W a' c' (hI : Ints W a' (othL n R)) (hc : (othL n R).length ≤ c') => (show Calls Tryd.prog 37 #[.int .i64 (n : Nat), .slice a' (othL n R).length c', .int .i64 (((pw n : Nat) : Int) - 1 - (s : Int))] W (Ret (.tuple #[.bool (!b), .int .i64 0]) W) from by
        have ho := oth_len n R
        have := Vo.Rules_yes a' n c' W (othL n R).length (pw n - 1 - s) (othL n R) hI rfl (by omega) hc hPO (by omega)
        rw [show Vo.hasOne (othL n R) (pw n - 1 - s) = !b by rw [has_vo, othL_has hP (by omega), show pw n - 1 - (pw n - 1 - s) = s by omega, hb], show (((pw n - 1 - s : Nat)) : Int) = ((pw n : Nat) : Int) - 1 - (s : Int) by omega] at this
        exact this))
      have W1 := Lib.hid (fun W (hW : Below w.heap.size w W) => (show Calls Tryd.prog 12 #[.int .i64 (n : Nat), .slice a m c, .string (wdS n s), .string strW] W (Ret (.tuple #[.string (ltr (sd b)), .int .i64 0]) W) from by
        have tn := tE_pos (s := wdS n s) (t := strW) (pE_pos hF (wdS_size n s) (wd_ok n s)) isSide_W
        have := Winner_any (n : Int) a m c R (wdS n s) strW W (h.next hW) hl (hT.next hW)
        rw [winS_pos tn, tn, wd_W hsl, wd_D hsl, win_full _ (wd_full hsl), hb] at this
        exact this))
      have LE := Lib.hid (fun W (hW : Below w.heap.size w W) => (show Calls Tryd.prog 28 #[.int .i64 (n : Nat), .slice a m c] W (NewIE R W) from by
        have := Least_ok n a m c R W hF (h.next hW) hl
        rw [rule_self hP] at this
        exact this))
      unfold strW at W1
      have hI := Lib.hid (fun W (hW : Below w.heap.size w W) => h.next hW)
      have lp := ltr_list b
      have hl' := Lib.hid hl
      have hmk := make_bys n (by omega)
      rw [cD_zero s n] at hmk
      have hy := Lib.hid (fun j => shr_bt s j)
      have hbk := Lib.hid (fun B W (h : Blk W B 5 (cD s n n)) => bytes_back ((List.range n).map fun i => UInt8.ofNat (wdB s i)) n B W (fun j hj => by
        rw [List.length_map, List.length_range] at hj
        rw [h.c j (cD_get hj), if_pos hj, List.getElem_map, List.getElem_range]
        have := wdB_lt s j
        rw [UInt8.toNat_ofNat']
        rw [show wdB s j % 2 ^ 8 = wdB s j by omega]))
      simp only [List.length_map, List.length_range] at hbk
      have hst : Hid ((⟨((List.range n).map fun i => UInt8.ofNat (wdB s i)).toArray⟩ : ByteArray) = wdS n s) := Lib.hid rfl
      rw [hst.out] at hbk
      generalize ltr (sd b) = Lp at *
      generalize othL n R = OL at *
      generalize wdS n s = SS at *
      generalize hol : OL.length = ol at *
      replace hol := Lib.hid hol
      unfold NewIE at LE
      rw [hl] at LE
      have hs31 : s < 32 := by omega
      clear h hl hT hP hPO hb hF _hnil hst hsv hsl
      have hp9' := Lib.hid hp9
      obtain ⟨pm, hpm⟩ : ∃ pm, pw n = pm := ⟨_, rfl⟩
      rw [hpm] at hp9 hpp hrem sh hpz R2
      clear hp9'
      go_enter Tryd.func8, Tryd.ntmps8
      go_wp2_with fail
      refine IR.out.mono ?_
      rintro e w1 ⟨rfl, hb1⟩
      dsimp only
      clear IR
      go_wp2
      go_loopw [9] (fun i wr => ∃ k : Nat, k ≤ n ∧ i = .int .i64 k ∧ Blk wr w1.heap.size 5 (cD s n k) ∧ Below w1.heap.size w1 wr) (fun i _ => n - (intOf i).toNat)
      case atStart => exact ⟨0, by omega, rfl, Blk.new w1 5 (cD s n 0), b1 _ _⟩
      case round =>
        obtain ⟨k, hk, rfl, hB, B0⟩ := hrel
        by_cases hlt : k < n
        · have hki : (k : Int) < (n : Int) := by omega
          have x0 := hB.c k (cD_get hlt)
          have fz := hB.fr k
          have hs1 := hB.setA (i := k) (.int .u8 100)
          have hb2 := B0.setCell (p := ⟨w1.heap.size, k, none⟩) (Nat.le_refl _) (.int .u8 100)
          have y1 := hy.out k
          by_cases hbt : bt s k = 1
          · have hwl : wdB s k = 119 := by unfold wdB; rw [if_pos hbt]
            have y2 : (((s : Int) / 2 ^ k).tmod 2 == 1) = true := by rw [y1, hbt]; rfl
            have x1 := hs1.c k (by rw [Array.getElem?_setIfInBounds_self_of_lt (by rw [cD_size]; exact hlt)])
            have fz1 := hs1.fr k
            have hs2 := hs1.setA (i := k) (.int .u8 119)
            have hcw := cD_set s n k hlt (.int .u8 100)
            rw [hwl] at hcw
            have hcw2 : ((cD s n k).setIfInBounds k (.int .u8 100)).setIfInBounds k (.int .u8 119) = cD s n (k + 1) := hcw
            rw [hcw2] at hs2
            have hb3 := hb2.setCell (p := ⟨w1.heap.size, k, none⟩) (Nat.le_refl _) (.int .u8 119)
            replace hs1 := Lib.hid hs1
            replace hs2 := Lib.hid hs2
            replace hb2 := Lib.hid hb2
            replace hb3 := Lib.hid hb3
            replace hB := Lib.hid hB
            clear y1 hbt hcw hcw2 hwl
            go_wp2
            go_roundw
            case rel => exact ⟨k + 1, by omega, by go_num, hs2.out, hb3.out⟩
            case measure => simp [intOf]; omega
          · have hwl : wdB s k = 100 := by unfold wdB; rw [if_neg hbt]
            have hb0 : bt s k = 0 := by have := bt_lt s k; omega
            have y2 : (((s : Int) / 2 ^ k).tmod 2 == 1) = false := by rw [y1, hb0]; rfl
            have hcw := cD_one s n k hlt
            rw [hwl] at hcw
            have hcw2 : (cD s n k).setIfInBounds k (.int .u8 100) = cD s n (k + 1) := hcw
            rw [hcw2] at hs1
            replace hs1 := Lib.hid hs1
            replace hb2 := Lib.hid hb2
            replace hB := Lib.hid hB
            clear y1 hbt hcw hcw2 hwl hb0
            go_wp2
            go_roundw
            case rel => exact ⟨k + 1, by omega, by go_num, hs1.out, hb2.out⟩
            case measure => simp [intOf]; omega
        · have hkn : k = n := by omega
          have hbb := hbk.out _ _ (by rw [← hkn]; rw [hkn]; rw [hkn] at hB; exact hB)
          have B1 := nextB hb1 B0
          have hkni : ¬ ((k : Int) < (n : Int)) := by omega
          clear hB hbk hmk hb1 B0 hy hlt hkn
          go_wp2_with fail
          (with_reducible refine (W1.out _ B1).mono ?_)
          rintro e w2 ⟨rfl, hb2⟩
          dsimp only
          have B2 := nextB B1 hb2
          clear hb2 B1 W1 hbb
          go_wp2_with fail
          (with_reducible refine (R1.out _ B2).mono ?_)
          rintro e w3 ⟨rfl, hb3⟩
          dsimp only
          have B3 := nextB B2 hb3
          clear hb3 B2 R1
          go_wp2_with fail
          (with_reducible refine (OT.out _ B3).mono ?_)
          rintro e w4 ⟨a2, c2, rfl, hc2, hI2, hb4⟩
          dsimp only
          have B4 := nextB B3 hb4
          clear hb4 B3 OT
          rw [hol.out]
          rw [hol.out] at hc2
          have r2 := Lib.hid (R2.out w4 a2 c2 hI2 hc2)
          clear R2 hI2
          go_wp2_with fail
          (with_reducible refine r2.out.mono ?_)
          rintro e w5 ⟨rfl, hb5⟩
          dsimp only
          have B5 := nextB B4 hb5
          clear hb5 B4 r2
          go_wp2_with fail
          (with_reducible refine (LE.out _ B5).mono ?_)
          rintro e w6 ⟨a6, c6, rfl, hI6, hb6⟩
          dsimp only
          have B6 := nextB B5 hb6
          clear hb6 B5 LE
          replace hI6 := Lib.hid hI6
          cases b <;> simp only [Bool.false_eq_true, if_false, if_true] at lp
          all_goals
            go_wp2
            go_loopw [20] (fun i wr => ∃ k : Nat, k ≤ m ∧ i = .int .i64 k ∧ Below w6.heap.size w6 wr) (fun i _ => m - (intOf i).toNat)
            case atStart => exact ⟨0, by omega, rfl, Below.refl _ _⟩
            case round =>
              obtain ⟨k, hk, rfl, C6⟩ := hrel
              have B7 := nextB B6 C6
              by_cases hlt : k < m
              · have hki : (k : Int) < (m : Int) := by omega
                obtain ⟨b8, off8, rfl, hc8⟩ := ints_at (hI6.out.next C6) (by rw [hl'.out]; omega)
                obtain ⟨b9, off9, rfl, hc9⟩ := ints_at (hI.out _ B7) (by rw [hl'.out]; omega)
                have x8 := hc8 k (by rw [hl'.out]; omega)
                have x9 := hc9 k (by rw [hl'.out]; omega)
                generalize nth R k = z at *
                clear hc8 hc9
                go_wp2
                go_region
                all_goals go_wp2
                all_goals go_roundw
                case rel => exact ⟨k + 1, by omega, by go_num, C6.drew⟩
                case measure => simp [intOf]; omega
              · have hki : ¬ ((k : Int) < (m : Int)) := by omega
                go_wp2_with (go_at_call 36; refine (V.out _ B7).mono ?_; rintro e w7 ⟨rfl, hb7⟩)
                go_ret
                exact Ret.mk rfl (nextB B7 hb7)
    · rw [decide_eq_false hR] at IR
      clear h hl hT hR
      go_enter Tryd.func8, Tryd.ntmps8
      go_wp2_with fail
      refine IR.out.mono ?_
      rintro e w1 ⟨rfl, hb1⟩
      dsimp only
      go_wp2_with (go_at_call 36; refine (V.out _ hb1).mono ?_; rintro e w7 ⟨rfl, hb7⟩)
      go_ret
      exact Ret.mk rfl (nextB hb1 hb7)
  · have h13 : 12 < m := by omega
    clear h hl hT h12
    go_enter Tryd.func8, Tryd.ntmps8
    go_wp2_with (go_at_call 36; refine (V.out _ B00).mono ?_; rintro e w7 ⟨rfl, hb7⟩)
    go_ret
    exact Ret.mk rfl hb7
end
end Go.Proofs.YtbdhceolchhnjaaDoor
