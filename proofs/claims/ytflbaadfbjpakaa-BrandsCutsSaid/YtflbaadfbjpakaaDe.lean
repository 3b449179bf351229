/- Layer 2: Cut, by both sides. -/
import Derived.Test.YtflbaadfbjpakaaDd
namespace Go.Proofs.Ytflbaadfbjpakaa
open Go Go.RowKit

/-- A list of numbers and an error came back. -/
def GotI (ys : List Int) (err : Int) (w : World) (e : Ending) (w' : World) : Prop :=
  ∃ a cap, e = .returned (.tuple #[.slice a ys.length cap, .int .i64 err]) ∧ Ints w' a ys ∧ ys.length ≤ cap ∧ Below w.heap.size w w'
theorem GotI.none (err : Int) {w w' : World} (h : Below w.heap.size w w') : GotI [] err w (.returned (.tuple #[.slice none 0 0, .int .i64 err])) w' := ⟨_, _, rfl, .inl rfl, Nat.le_refl _, h⟩
def cutE (xs : List Int) (c : Int) : Int := if RoundP xs ∧ CornP xs.length c then if xs.length = 3 ∨ ¬ EarP xs c.toNat then 9 else 0 else 2
def cutO (xs : List Int) (c : Int) : List Int := if cutE xs c = 0 then cutL xs c.toNat else []
theorem cut_arg {xs : List Int} {c : Int} (h : ¬ (RoundP xs ∧ CornP xs.length c)) : cutE xs c = 2 ∧ cutO xs c = [] := by
  have : cutE xs c = 2 := by unfold cutE; rw [if_neg h]
  exact ⟨this, by unfold cutO; rw [this]; rfl⟩
theorem cut_state {xs : List Int} {c : Int} (h : RoundP xs ∧ CornP xs.length c) (k : xs.length = 3 ∨ ¬ EarP xs c.toNat) : cutE xs c = 9 ∧ cutO xs c = [] := by
  have : cutE xs c = 9 := by unfold cutE; rw [if_pos h, if_pos k]
  exact ⟨this, by unfold cutO; rw [this]; rfl⟩
theorem cut_ok {xs : List Int} {c : Int} (h : RoundP xs ∧ CornP xs.length c) (k : ¬ (xs.length = 3 ∨ ¬ EarP xs c.toNat)) : cutE xs c = 0 ∧ cutO xs c = cutL xs c.toNat := by
  have : cutE xs c = 0 := by unfold cutE; rw [if_pos h, if_neg k]
  exact ⟨this, by unfold cutO; rw [this]; rfl⟩
set_option maxRecDepth 100000 in
set_option maxHeartbeats 1600000 in
theorem Cut_any (a : Option Addr) (n cp : Nat) (c : Int) (xs : List Int) (w : World) (h : Ints w a xs) (hn : xs.length = n) (hm : n ≤ 4611686018427387904) :
    Calls Try.prog 36 #[.slice a n cp, .int .i64 c] w (GotI (cutO xs c) (cutE xs c) w) := by
  have K := Lib.hid (isRound_any a n cp xs w h hn hm)
  by_cases hR : RoundP xs
  · rw [decide_eq_true hR] at K
    have C := isCorner_any n c
    by_cases hC : CornP n c
    · rw [decide_eq_true hC] at C
      obtain ⟨c, rfl⟩ : ∃ k : Nat, c = k := ⟨c.toNat, by have := hC.1; omega⟩
      have hP : RoundP xs ∧ CornP xs.length c := ⟨hR, by rw [hn]; exact hC⟩
      have h3 := hR.1
      have h12 := hR.2.1
      have hcn : c < n := by have := hC.2; omega
      obtain ⟨b, off, rfl, hc⟩ := ints_at h (by omega)
      rw [hn] at hc
      by_cases he : xs.length = 3 ∨ ¬ EarP xs c
      · rw [(cut_state hP (by simpa using he)).1, (cut_state hP (by simpa using he)).2]
        have E := Lib.hid (fun W (e : W = w) => show Calls Try.prog 64 #[.slice (some ⟨b, off, none⟩) n cp, .int .i64 c] W (Only (.bool (decide (EarP xs c))) W) from by subst e; exact isEar_any b off n c cp xs W hn (by omega) (by omega) hcn hc)
        by_cases h3' : n = 3
        · subst h3'
          clear hP h he hR hc E
          go_enter Try.func36, Try.ntmps36
          go_wp2_with (first
            | (go_at_call 54; refine K.out.mono ?_; rintro e w1 ⟨rfl, rfl⟩)
            | (go_at_call 59; refine (C _).mono ?_; rintro e w1 ⟨rfl, rfl⟩))
          go_ret2
          exact GotI.none 9 (Below.refl _ _)
        · have hne : ¬ EarP xs c := he.resolve_left (by omega)
          rw [decide_eq_false hne] at E
          have hn3 : ((n : Int) == 3) = false := by rw [beq_eq_false_iff_ne]; omega
          clear hP h he hR hc
          go_enter Try.func36, Try.ntmps36
          go_wp2_with (first
            | (go_at_call 54; refine K.out.mono ?_; rintro e w1 ⟨rfl, rfl⟩)
            | (go_at_call 59; refine (C _).mono ?_; rintro e w1 ⟨rfl, rfl⟩)
            | (go_at_call 64; refine (E.out _ rfl).mono ?_; rintro e w1 ⟨rfl, rfl⟩))
          go_ret2
          exact GotI.none 9 (Below.refl _ _)
      · rw [(cut_ok hP (by simpa using he)).1, (cut_ok hP (by simpa using he)).2]
        have hE : EarP xs c := Classical.byContradiction fun h => he (.inr h)
        have hn3 : ((n : Int) == 3) = false := by rw [beq_eq_false_iff_ne]; have := mt Or.inl he; omega
        have E := Lib.hid (isEar_any b off n c cp xs w hn (by omega) (by omega) hcn hc)
        rw [decide_eq_true hE] at E
        have T := Lib.hid (cut_any b off n cp c xs w hn (by omega) (by omega) hcn (fun i hi => by have := hR.2.2 i hi; omega) hc)
        have hl := cutL_length (R := xs) (c := c) (by omega)
        rw [Int.toNat_natCast]
        generalize cutL xs c = ys at *
        clear hP h he hR hc hE
        go_enter Try.func36, Try.ntmps36
        go_wp2_with (first
          | (go_at_call 54; refine K.out.mono ?_; rintro e w1 ⟨rfl, rfl⟩)
          | (go_at_call 59; refine (C _).mono ?_; rintro e w1 ⟨rfl, rfl⟩)
          | (go_at_call 64; refine E.out.mono ?_; rintro e w1 ⟨rfl, rfl⟩)
          | (go_at_call 65; refine T.out.mono ?_; rintro e w1 ⟨g, cap, rfl, hown, B0⟩))
        go_ret2
        have ho := own_ints hown
        refine ⟨_, _, by rw [show n - 1 = ys.length by omega]; rfl, .inr ⟨g, 0, rfl, fun i hi => ho.2 i (by omega)⟩, by have := (own_cap hown).1; omega, B0⟩
    · rw [decide_eq_false hC] at C
      have hP : ¬ (RoundP xs ∧ CornP xs.length c) := fun hh => hC (by rw [← hn]; exact hh.2)
      rw [(cut_arg hP).1, (cut_arg hP).2]
      clear hP hC hR h
      go_enter Try.func36, Try.ntmps36
      go_wp2_with (first
        | (go_at_call 54; refine K.out.mono ?_; rintro e w1 ⟨rfl, rfl⟩)
        | (go_at_call 59; refine (C _).mono ?_; rintro e w1 ⟨rfl, rfl⟩))
      go_ret2
      exact GotI.none 2 (Below.refl _ _)
  · rw [decide_eq_false hR] at K
    have hP : ¬ (RoundP xs ∧ CornP xs.length c) := fun hh => hR hh.1
    rw [(cut_arg hP).1, (cut_arg hP).2]
    clear hP hR h
    go_enter Try.func36, Try.ntmps36
    go_wp2_with (go_at_call 54; refine K.out.mono ?_; rintro e w1 ⟨rfl, rfl⟩)
    go_ret2
    exact GotI.none 2 (Below.refl _ _)
theorem erase_take_succ (zs : List Int) (c i : Nat) (hi : i < zs.length) : (zs.take (i + 1)).eraseIdx c = if i = c then (zs.take i).eraseIdx c else (zs.take i).eraseIdx c ++ [nth zs i] := by
  have e : zs.take (i + 1) = zs.take i ++ [nth zs i] := by
    rw [List.take_add_one]
    congr 1
    simp [nth, hi]
  rw [e]
  have hl : (zs.take i).length = i := by simp; omega
  by_cases h : i = c
  · subst h
    rw [if_pos rfl, List.eraseIdx_append_of_length_le (by omega), hl, Nat.sub_self, List.eraseIdx_of_length_le (l := zs.take i) (by omega)]
    simp
  · rw [if_neg h]
    by_cases h2 : c < i
    · rw [List.eraseIdx_append_of_lt_length (by omega)]
    · rw [List.eraseIdx_append_of_length_le (by omega), hl, List.eraseIdx_of_length_le (l := zs.take i) (by omega)]
      congr 1
      exact List.eraseIdx_of_length_le (by simp; omega)
/-- The list whose numbers beside c are made less by 1. -/
def lessL (xs : List Int) (c : Nat) : List Int := (xs.set ((c + xs.length - 1) % xs.length) (nth xs ((c + xs.length - 1) % xs.length) - 1)).set ((c + 1) % xs.length) (nth (xs.set ((c + xs.length - 1) % xs.length) (nth xs ((c + xs.length - 1) % xs.length) - 1)) ((c + 1) % xs.length) - 1)
theorem cutL_less (xs : List Int) (c : Nat) : cutL xs c = (lessL xs c).eraseIdx c := rfl
theorem lessL_length (xs : List Int) (c : Nat) : (lessL xs c).length = xs.length := by simp [lessL]
theorem nth_lessL {xs : List Int} {c k : Nat} (h3 : 3 ≤ xs.length) (hc : c < xs.length) : nth (lessL xs c) k = if k = (c + 1) % xs.length ∨ k = (c + xs.length - 1) % xs.length then nth xs k - 1 else nth xs k := by
  have e1 : (c + xs.length - 1) % xs.length < xs.length := Nat.mod_lt _ (by omega)
  have e2 : (c + 1) % xs.length < xs.length := Nat.mod_lt _ (by omega)
  have hne : (c + xs.length - 1) % xs.length ≠ (c + 1) % xs.length := by
    rw [mod_small (by omega), mod_small (by omega)]
    split <;> split <;> omega
  unfold lessL
  rw [nth_set (by simpa using e2), nth_set e1, nth_set e1]
  by_cases h1 : k = (c + 1) % xs.length
  · rw [if_pos h1, if_neg (fun h => hne h.symm), if_pos (.inl h1), h1]
  · by_cases h2 : k = (c + xs.length - 1) % xs.length
    · rw [if_neg h1, if_pos h2, if_pos (.inr h2), h2]
    · rw [if_neg h1, if_neg h2, if_neg (by omega)]
set_option maxRecDepth 100000 in
set_option maxHeartbeats 4000000 in
theorem refCut_ok (b off n cp c : Nat) (xs : List Int) (w : World) (hc : ∀ i, i < n → w.cell? ⟨b, off + i, none⟩ = some (.int .i64 (nth xs i))) (hn : xs.length = n) (hR : RoundP xs) (hcn : c < n) (hE : EarP xs c) (h3 : 3 < n) (h12 : n ≤ 12) :
    Calls Try.prog 37 #[.slice (some ⟨b, off, none⟩) n cp, .int .i64 c] w (GotI (cutL xs c) 0 w) := by
  obtain ⟨i0, hi0, hz0, hz1, hz2⟩ := info_parts infoInt
  have G0 := Lib.hid hi0
  have G1 := Lib.hid hz0
  have G2 := Lib.hid hz1
  have G3 := Lib.hid hz2
  clear hi0 hz0 hz1 hz2
  have K := Lib.hid (refIsRound_any (some ⟨b, off, none⟩) n cp xs w (.inr ⟨b, off, rfl, fun i hi => hc i (by omega)⟩) hn (by omega))
  rw [decide_eq_true hR] at K
  obtain ⟨m0, m1, m2⟩ := mod_ahead c n (by omega)
  obtain ⟨m3, m4, m5⟩ := mod_at1 c n (by omega)
  obtain ⟨pv, hpv⟩ : ∃ pv, pv = (c + n - 1) % n := ⟨_, rfl⟩
  obtain ⟨nx, hnx⟩ : ∃ nx, nx = (c + 1) % n := ⟨_, rfl⟩
  have hpn : pv < n := by rw [hpv]; exact Nat.mod_lt _ (by omega)
  have hnn : nx < n := by rw [hnx]; exact Nat.mod_lt _ (by omega)
  have hpc : pv ≠ c := by rw [hpv, mod_small (by omega)]; split <;> omega
  have hnc : nx ≠ c := by rw [hnx, mod_small (by omega)]; split <;> omega
  rw [← hpv] at m2
  rw [← hnx] at m5
  obtain ⟨he1, he2, he3⟩ := hE
  rw [hn, ← hpv] at he2
  rw [hn, ← hnx] at he3
  have x0 := hc c hcn
  have x1 := hc pv hpn
  have x2 := hc nx hnn
  rw [he1] at x0
  have q1 : (nth xs nx == 1) = false := by rw [beq_eq_false_iff_ne]; omega
  have q2 : (nth xs pv == 1) = false := by rw [beq_eq_false_iff_ne]; omega
  have hn3 : ((n : Int) == 3) = false := by rw [beq_eq_false_iff_ne]; omega
  have hle := Lib.hid (fun k => nth_lessL (k := k) (c := c) (xs := xs) (by omega) (by omega))
  rw [hn, ← hpv, ← hnx] at hle
  have hll := lessL_length xs c
  have hbd := Lib.hid (fun k (hk : k < n) => hR.2.2 k (by omega))
  rw [cutL_less]
  have hstep := Lib.hid (fun i (hi : i < n) => erase_take_succ (lessL xs c) c i (by omega))
  generalize lessL xs c = zs at *
  replace hc := Lib.hid hc
  replace hn := Lib.hid hn
  replace hll := Lib.hid (show zs.length = n by rw [hll, hn.out])
  clear hR hpv hnx he1 he2 he3
  have hc00 : ¬ (c : Int) < 0 := by omega
  have hc01 : ¬ n ≤ c := by omega
  go_enter Try.func37, Try.ntmps37
  go_wp2_with (go_at_call 44; refine K.out.mono ?_; rintro e w1 ⟨rfl, rfl⟩)
  clear x0 x1 x2 q1 q2
  go_loopw [7, 8, 9] (fun v i _ wr => ∃ k : Nat, k ≤ n ∧ i = .int .i64 k ∧ wr.ownsRow w.heap.size 3 1 v ((zs.take k).eraseIdx c).length (lI ((zs.take k).eraseIdx c)) ∧ Below w.heap.size w wr) (fun _ i _ _ => n - (intOf i).toNat)
  case atStart => exact ⟨0, by omega, rfl, World.ownsRow_nil _ _ _ _, Below.refl _ _⟩
  case round =>
    obtain ⟨k, hk, rfl, hown, B0⟩ := hrel
    by_cases hlt : k < n
    · have x0 := cellB B0 (hc.out k hlt)
      have hs := Lib.hid (hstep.out k hlt)
      have hv := Lib.hid (hle.out k)
      obtain ⟨v1, v2⟩ := hbd.out k hlt
      have hlen : ((zs.take k).eraseIdx c).length ≤ k := by
        have h1 := List.length_eraseIdx_le (zs.take k) c
        simp at h1
        omega
      have hi1 : (k : Int) < (n : Int) := by omega
      generalize (zs.take k).eraseIdx c = ys at *
      by_cases h1 : k = nx
      · have g1 : ((k : Int) == ((c : Int) + 1) % (n : Int)) = true := by rw [beq_iff_eq]; omega
        have g3 : ((k : Int) != (c : Int)) = true := by rw [bne_iff_ne]; omega
        have hv' := Lib.hid (show nth zs k = nth xs k - 1 by rw [hv.out, if_pos (.inl h1)])
        have hs' := Lib.hid (show (zs.take (k + 1)).eraseIdx c = ys ++ [nth xs k - 1] by rw [hs.out, if_neg (by omega), hv'.out])
        clear h1
        generalize nth xs k = y at *
        go_wp2_with (at_builtin; refine wpList_append_own _ rfl _ _ 30 rfl w.heap.size 3 i0 (.int .i64 0) 1 8 Try.underlying30 G0.out G1.out G2.out G3.out rfl (by decide) _ _ _ rfl (hown.alloc _) ⟨_, 0, none⟩ 1 1 [.int .i64 (y - 1)] rfl rfl (cell_one_new _ _ _) (by simp [Value.oneCell']) (by unfold maxLen; omega) (by omega) (by have := B0.size; simp; omega) ?_; intro v' w2 hown2 hgrow _)
        have hsz := B0.size
        have B2 := (B0.alloc hsz _).grown hgrow (by simp; omega) (fun q hq => by have := (hown.lt q hq).1; omega)
        go_roundw
        case rel => exact ⟨k + 1, by omega, by go_num, by rw [hs'.out, List.length_append, show lI (ys ++ [y - 1]) = lI ys ++ [.int .i64 (y - 1)] by simp [lI]]; exact hown2, B2⟩
        case measure => simp [intOf]; omega
      · have g1 : ((k : Int) == ((c : Int) + 1) % (n : Int)) = false := by rw [beq_eq_false_iff_ne]; omega
        by_cases h2 : k = pv
        · have g2 : ((k : Int) == ((c : Int) + (n : Int) - 1) % (n : Int)) = true := by rw [beq_iff_eq]; omega
          have g3 : ((k : Int) != (c : Int)) = true := by rw [bne_iff_ne]; omega
          have hv' := Lib.hid (show nth zs k = nth xs k - 1 by rw [hv.out, if_pos (.inr h2)])
          have hs' := Lib.hid (show (zs.take (k + 1)).eraseIdx c = ys ++ [nth xs k - 1] by rw [hs.out, if_neg (by omega), hv'.out])
          clear h2
          generalize nth xs k = y at *
          go_wp2_with (at_builtin; refine wpList_append_own _ rfl _ _ 30 rfl w.heap.size 3 i0 (.int .i64 0) 1 8 Try.underlying30 G0.out G1.out G2.out G3.out rfl (by decide) _ _ _ rfl (hown.alloc _) ⟨_, 0, none⟩ 1 1 [.int .i64 (y - 1)] rfl rfl (cell_one_new _ _ _) (by simp [Value.oneCell']) (by unfold maxLen; omega) (by omega) (by have := B0.size; simp; omega) ?_; intro v' w2 hown2 hgrow _)
          have hsz := B0.size
          have B2 := (B0.alloc hsz _).grown hgrow (by simp; omega) (fun q hq => by have := (hown.lt q hq).1; omega)
          go_roundw
          case rel => exact ⟨k + 1, by omega, by go_num, by rw [hs'.out, List.length_append, show lI (ys ++ [y - 1]) = lI ys ++ [.int .i64 (y - 1)] by simp [lI]]; exact hown2, B2⟩
          case measure => simp [intOf]; omega
        · have g2 : ((k : Int) == ((c : Int) + (n : Int) - 1) % (n : Int)) = false := by rw [beq_eq_false_iff_ne]; omega
          by_cases h4 : k = c
          · have g3 : ((k : Int) != (c : Int)) = false := by rw [bne_eq_false_iff_eq]; omega
            have hs' := Lib.hid (show (zs.take (k + 1)).eraseIdx c = ys by rw [hs.out, if_pos h4])
            clear h4
            go_wp2_with fail
            go_roundw
            case rel => exact ⟨k + 1, by omega, by go_num, by rw [hs'.out]; exact hown, B0⟩
            case measure => simp [intOf]; omega
          · have g3 : ((k : Int) != (c : Int)) = true := by rw [bne_iff_ne]; omega
            have hv' := Lib.hid (show nth zs k = nth xs k by rw [hv.out, if_neg (by omega)])
            have hs' := Lib.hid (show (zs.take (k + 1)).eraseIdx c = ys ++ [nth xs k] by rw [hs.out, if_neg h4, hv'.out])
            generalize nth xs k = y at *
            go_wp2_with (at_builtin; refine wpList_append_own _ rfl _ _ 30 rfl w.heap.size 3 i0 (.int .i64 0) 1 8 Try.underlying30 G0.out G1.out G2.out G3.out rfl (by decide) _ _ _ rfl (hown.alloc _) ⟨_, 0, none⟩ 1 1 [.int .i64 y] rfl rfl (cell_one_new _ _ _) (by simp [Value.oneCell']) (by unfold maxLen; omega) (by omega) (by have := B0.size; simp; omega) ?_; intro v' w2 hown2 hgrow _)
            have hsz := B0.size
            have B2 := (B0.alloc hsz _).grown hgrow (by simp; omega) (fun q hq => by have := (hown.lt q hq).1; omega)
            go_roundw
            case rel => exact ⟨k + 1, by omega, by go_num, by rw [hs'.out, List.length_append, show lI (ys ++ [y]) = lI ys ++ [.int .i64 y] by simp [lI]]; exact hown2, B2⟩
            case measure => simp [intOf]; omega
    · obtain rfl : k = n := by omega
      have e1 : zs.take k = zs := List.take_of_length_le (by rw [hll.out]; exact Nat.le_refl _)
      rw [e1] at hown
      obtain ⟨a2, c2, rfl, hc2, hi2⟩ := own_intsA hown rfl
      go_wp2_with fail
      go_ret2
      exact ⟨a2, c2, rfl, hi2, hc2, B0⟩
end Go.Proofs.Ytflbaadfbjpakaa
