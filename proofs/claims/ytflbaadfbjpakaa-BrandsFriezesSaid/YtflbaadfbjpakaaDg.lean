/- Layer 2: Cut, by both sides. Layer 2: Cut where the specification refuses; Glue, by the program. Layer 2: Glue, by both sides. -/
import Derived.Test.YtflbaadfbjpakaaDd
namespace Go.Proofs.Ytflbaadfbjpakaa
section
open Go Go.RowKit

/-- A list of numbers and an error came back. -/
def GotI (ys : List Int) (err : Int) (w : World) (e : Ending) (w' : World) : Prop :=
  ∃ a cap, e = .returned (.tuple #[.slice a ys.length cap, .int .i64 err]) ∧ Ints w' a ys ∧ ys.length ≤ cap ∧ Below w.heap.size w w'
theorem GotI.none (err : Int) {w w' : World} (h : Below w.heap.size w w') : GotI [] err w (.returned (.tuple #[.slice none 0 0, .int .i64 err])) w' := ⟨_, _, rfl, .inl rfl, Nat.le_refl _, h⟩
def cutE (xs : List Int) (c : Int) : Int := if RoundP xs ∧ CornP xs.length c then if xs.length = 3 ∨ ¬ EarP xs c.toNat then 9 else 0 else 2
def cutO (xs : List Int) (c : Int) : List Int := if cutE xs c = 0 then cutL xs c.toNat else []
theorem cut_arg {xs : List Int} {c : Int} (h : ¬ (RoundP xs ∧ CornP xs.length c)) : cutE xs c = 2 ∧ cutO xs c = [] := by
  have : cutE xs c = 2 := by unfold cutE; rw [if_neg h]
  exact ⟨this, by unfold cutO; rw [this]; rfl⟩
theorem cut_state {xs : List Int} {c : Int} (h : RoundP xs ∧ CornP xs.length c) (k : xs.length = 3 ∨ ¬ EarP xs c.toNat) : cutE xs c = 9 ∧ cutO xs c = [] := by
  have : cutE xs c = 9 := by unfold cutE; rw [if_pos h, if_pos k]
  exact ⟨this, by unfold cutO; rw [this]; rfl⟩
theorem cut_ok {xs : List Int} {c : Int} (h : RoundP xs ∧ CornP xs.length c) (k : ¬ (xs.length = 3 ∨ ¬ EarP xs c.toNat)) : cutE xs c = 0 ∧ cutO xs c = cutL xs c.toNat := by
  have : cutE xs c = 0 := by unfold cutE; rw [if_pos h, if_neg k]
  exact ⟨this, by unfold cutO; rw [this]; rfl⟩
set_option maxRecDepth 100000 in
set_option maxHeartbeats 1600000 in
theorem Cut_any (a : Option Addr) (n cp : Nat) (c : Int) (xs : List Int) (w : World) (h : Ints w a xs) (hn : xs.length = n) (hm : n ≤ 4611686018427387904) :
    Calls Try.prog 36 #[.slice a n cp, .int .i64 c] w (GotI (cutO xs c) (cutE xs c) w) := by
  have K := Lib.hid (isRound_any a n cp xs w h hn hm)
  by_cases hR : RoundP xs
  · rw [decide_eq_true hR] at K
    have C := isCorner_any n c
    by_cases hC : CornP n c
    · rw [decide_eq_true hC] at C
      obtain ⟨c, rfl⟩ : ∃ k : Nat, c = k := ⟨c.toNat, by have := hC.1; omega⟩
      have hP : RoundP xs ∧ CornP xs.length c := ⟨hR, by rw [hn]; exact hC⟩
      have h3 := hR.1
      have h12 := hR.2.1
      have hcn : c < n := by have := hC.2; omega
      obtain ⟨b, off, rfl, hc⟩ := ints_at h (by omega)
      rw [hn] at hc
      by_cases he : xs.length = 3 ∨ ¬ EarP xs c
      · rw [(cut_state hP (by simpa using he)).1, (cut_state hP (by simpa using he)).2]
        have E := Lib.hid (fun W (e : W = w) => show Calls Try.prog 64 #[.slice (some ⟨b, off, none⟩) n cp, .int .i64 c] W (Only (.bool (decide (EarP xs c))) W) from by subst e; exact isEar_any b off n c cp xs W hn (by omega) (by omega) hcn hc)
        by_cases h3' : n = 3
        · subst h3'
          clear hP h he hR hc E
          go_enter Try.func36, Try.ntmps36
          go_wp2_with (first
            | (go_at_call 54; refine K.out.mono ?_; rintro e w1 ⟨rfl, rfl⟩)
            | (go_at_call 59; refine (C _).mono ?_; rintro e w1 ⟨rfl, rfl⟩))
          go_ret2
          exact GotI.none 9 (Below.refl _ _)
        · have hne : ¬ EarP xs c := he.resolve_left (by omega)
          rw [decide_eq_false hne] at E
          have hn3 : ((n : Int) == 3) = false := by rw [beq_eq_false_iff_ne]; omega
          clear hP h he hR hc
          go_enter Try.func36, Try.ntmps36
          go_wp2_with (first
            | (go_at_call 54; refine K.out.mono ?_; rintro e w1 ⟨rfl, rfl⟩)
            | (go_at_call 59; refine (C _).mono ?_; rintro e w1 ⟨rfl, rfl⟩)
            | (go_at_call 64; refine (E.out _ rfl).mono ?_; rintro e w1 ⟨rfl, rfl⟩))
          go_ret2
          exact GotI.none 9 (Below.refl _ _)
      · rw [(cut_ok hP (by simpa using he)).1, (cut_ok hP (by simpa using he)).2]
        have hE : EarP xs c := Classical.byContradiction fun h => he (.inr h)
        have hn3 : ((n : Int) == 3) = false := by rw [beq_eq_false_iff_ne]; have := mt Or.inl he; omega
        have E := Lib.hid (isEar_any b off n c cp xs w hn (by omega) (by omega) hcn hc)
        rw [decide_eq_true hE] at E
        have T := Lib.hid (cut_any b off n cp c xs w hn (by omega) (by omega) hcn (fun i hi => by have := hR.2.2 i hi; omega) hc)
        have hl := cutL_length (R := xs) (c := c) (by omega)
        rw [Int.toNat_natCast]
        generalize cutL xs c = ys at *
        clear hP h he hR hc hE
        go_enter Try.func36, Try.ntmps36
        go_wp2_with (first
          | (go_at_call 54; refine K.out.mono ?_; rintro e w1 ⟨rfl, rfl⟩)
          | (go_at_call 59; refine (C _).mono ?_; rintro e w1 ⟨rfl, rfl⟩)
          | (go_at_call 64; refine E.out.mono ?_; rintro e w1 ⟨rfl, rfl⟩)
          | (go_at_call 65; refine T.out.mono ?_; rintro e w1 ⟨g, cap, rfl, hown, B0⟩))
        go_ret2
        have ho := own_ints hown
        refine ⟨_, _, by rw [show n - 1 = ys.length by omega]; rfl, .inr ⟨g, 0, rfl, fun i hi => ho.2 i (by omega)⟩, by have := (own_cap hown).1; omega, B0⟩
    · rw [decide_eq_false hC] at C
      have hP : ¬ (RoundP xs ∧ CornP xs.length c) := fun hh => hC (by rw [← hn]; exact hh.2)
      rw [(cut_arg hP).1, (cut_arg hP).2]
      clear hP hC hR h
      go_enter Try.func36, Try.ntmps36
      go_wp2_with (first
        | (go_at_call 54; refine K.out.mono ?_; rintro e w1 ⟨rfl, rfl⟩)
        | (go_at_call 59; refine (C _).mono ?_; rintro e w1 ⟨rfl, rfl⟩))
      go_ret2
      exact GotI.none 2 (Below.refl _ _)
  · rw [decide_eq_false hR] at K
    have hP : ¬ (RoundP xs ∧ CornP xs.length c) := fun hh => hR hh.1
    rw [(cut_arg hP).1, (cut_arg hP).2]
    clear hP hR h
    go_enter Try.func36, Try.ntmps36
    go_wp2_with (go_at_call 54; refine K.out.mono ?_; rintro e w1 ⟨rfl, rfl⟩)
    go_ret2
    exact GotI.none 2 (Below.refl _ _)
theorem erase_take_succ (zs : List Int) (c i : Nat) (hi : i < zs.length) : (zs.take (i + 1)).eraseIdx c = if i = c then (zs.take i).eraseIdx c else (zs.take i).eraseIdx c ++ [nth zs i] := by
  have e : zs.take (i + 1) = zs.take i ++ [nth zs i] := by
    rw [List.take_add_one]
    congr 1
    simp [nth, hi]
  rw [e]
  have hl : (zs.take i).length = i := by simp; omega
  by_cases h : i = c
  · subst h
    rw [if_pos rfl, List.eraseIdx_append_of_length_le (by omega), hl, Nat.sub_self, List.eraseIdx_of_length_le (l := zs.take i) (by omega)]
    simp
  · rw [if_neg h]
    by_cases h2 : c < i
    · rw [List.eraseIdx_append_of_lt_length (by omega)]
    · rw [List.eraseIdx_append_of_length_le (by omega), hl, List.eraseIdx_of_length_le (l := zs.take i) (by omega)]
      congr 1
      exact List.eraseIdx_of_length_le (by simp; omega)
/-- The list whose numbers beside c are made less by 1. -/
def lessL (xs : List Int) (c : Nat) : List Int := (xs.set ((c + xs.length - 1) % xs.length) (nth xs ((c + xs.length - 1) % xs.length) - 1)).set ((c + 1) % xs.length) (nth (xs.set ((c + xs.length - 1) % xs.length) (nth xs ((c + xs.length - 1) % xs.length) - 1)) ((c + 1) % xs.length) - 1)
theorem cutL_less (xs : List Int) (c : Nat) : cutL xs c = (lessL xs c).eraseIdx c := rfl
theorem lessL_length (xs : List Int) (c : Nat) : (lessL xs c).length = xs.length := by simp [lessL]
theorem nth_lessL {xs : List Int} {c k : Nat} (h3 : 3 ≤ xs.length) (hc : c < xs.length) : nth (lessL xs c) k = if k = (c + 1) % xs.length ∨ k = (c + xs.length - 1) % xs.length then nth xs k - 1 else nth xs k := by
  have e1 : (c + xs.length - 1) % xs.length < xs.length := Nat.mod_lt _ (by omega)
  have e2 : (c + 1) % xs.length < xs.length := Nat.mod_lt _ (by omega)
  have hne : (c + xs.length - 1) % xs.length ≠ (c + 1) % xs.length := by
    rw [mod_small (by omega), mod_small (by omega)]
    split <;> split <;> omega
  unfold lessL
  rw [nth_set (by simpa using e2), nth_set e1, nth_set e1]
  by_cases h1 : k = (c + 1) % xs.length
  · rw [if_pos h1, if_neg (fun h => hne h.symm), if_pos (.inl h1), h1]
  · by_cases h2 : k = (c + xs.length - 1) % xs.length
    · rw [if_neg h1, if_pos h2, if_pos (.inr h2), h2]
    · rw [if_neg h1, if_neg h2, if_neg (by omega)]
set_option maxRecDepth 100000 in
set_option maxHeartbeats 4000000 in
theorem refCut_ok (b off n cp c : Nat) (xs : List Int) (w : World) (hc : ∀ i, i < n → w.cell? ⟨b, off + i, none⟩ = some (.int .i64 (nth xs i))) (hn : xs.length = n) (hR : RoundP xs) (hcn : c < n) (hE : EarP xs c) (h3 : 3 < n) (h12 : n ≤ 12) :
    Calls Try.prog 37 #[.slice (some ⟨b, off, none⟩) n cp, .int .i64 c] w (GotI (cutL xs c) 0 w) := by
  obtain ⟨i0, hi0, hz0, hz1, hz2⟩ := info_parts infoInt
  have G0 := Lib.hid hi0
  have G1 := Lib.hid hz0
  have G2 := Lib.hid hz1
  have G3 := Lib.hid hz2
  clear hi0 hz0 hz1 hz2
  have K := Lib.hid (refIsRound_any (some ⟨b, off, none⟩) n cp xs w (.inr ⟨b, off, rfl, fun i hi => hc i (by omega)⟩) hn (by omega))
  rw [decide_eq_true hR] at K
  obtain ⟨m0, m1, m2⟩ := mod_ahead c n (by omega)
  obtain ⟨m3, m4, m5⟩ := mod_at1 c n (by omega)
  obtain ⟨pv, hpv⟩ : ∃ pv, pv = (c + n - 1) % n := ⟨_, rfl⟩
  obtain ⟨nx, hnx⟩ : ∃ nx, nx = (c + 1) % n := ⟨_, rfl⟩
  have hpn : pv < n := by rw [hpv]; exact Nat.mod_lt _ (by omega)
  have hnn : nx < n := by rw [hnx]; exact Nat.mod_lt _ (by omega)
  have hpc : pv ≠ c := by rw [hpv, mod_small (by omega)]; split <;> omega
  have hnc : nx ≠ c := by rw [hnx, mod_small (by omega)]; split <;> omega
  rw [← hpv] at m2
  rw [← hnx] at m5
  obtain ⟨he1, he2, he3⟩ := hE
  rw [hn, ← hpv] at he2
  rw [hn, ← hnx] at he3
  have x0 := hc c hcn
  have x1 := hc pv hpn
  have x2 := hc nx hnn
  rw [he1] at x0
  have q1 : (nth xs nx == 1) = false := by rw [beq_eq_false_iff_ne]; omega
  have q2 : (nth xs pv == 1) = false := by rw [beq_eq_false_iff_ne]; omega
  have hn3 : ((n : Int) == 3) = false := by rw [beq_eq_false_iff_ne]; omega
  have hle := Lib.hid (fun k => nth_lessL (k := k) (c := c) (xs := xs) (by omega) (by omega))
  rw [hn, ← hpv, ← hnx] at hle
  have hll := lessL_length xs c
  have hbd := Lib.hid (fun k (hk : k < n) => hR.2.2 k (by omega))
  rw [cutL_less]
  have hstep := Lib.hid (fun i (hi : i < n) => erase_take_succ (lessL xs c) c i (by omega))
  generalize lessL xs c = zs at *
  replace hc := Lib.hid hc
  replace hn := Lib.hid hn
  replace hll := Lib.hid (show zs.length = n by rw [hll, hn.out])
  clear hR hpv hnx he1 he2 he3
  have hc00 : ¬ (c : Int) < 0 := by omega
  have hc01 : ¬ n ≤ c := by omega
  go_enter Try.func37, Try.ntmps37
  go_wp2_with (go_at_call 44; refine K.out.mono ?_; rintro e w1 ⟨rfl, rfl⟩)
  clear x0 x1 x2 q1 q2
  go_loopw [7, 8, 9] (fun v i _ wr => ∃ k : Nat, k ≤ n ∧ i = .int .i64 k ∧ wr.ownsRow w.heap.size 3 1 v ((zs.take k).eraseIdx c).length (lI ((zs.take k).eraseIdx c)) ∧ Below w.heap.size w wr) (fun _ i _ _ => n - (intOf i).toNat)
  case atStart => exact ⟨0, by omega, rfl, World.ownsRow_nil _ _ _ _, Below.refl _ _⟩
  case round =>
    obtain ⟨k, hk, rfl, hown, B0⟩ := hrel
    by_cases hlt : k < n
    · have x0 := cellB B0 (hc.out k hlt)
      have hs := Lib.hid (hstep.out k hlt)
      have hv := Lib.hid (hle.out k)
      obtain ⟨v1, v2⟩ := hbd.out k hlt
      have hlen : ((zs.take k).eraseIdx c).length ≤ k := by
        have h1 := List.length_eraseIdx_le (zs.take k) c
        simp at h1
        omega
      have hi1 : (k : Int) < (n : Int) := by omega
      generalize (zs.take k).eraseIdx c = ys at *
      by_cases h1 : k = nx
      · have g1 : ((k : Int) == ((c : Int) + 1) % (n : Int)) = true := by rw [beq_iff_eq]; omega
        have g3 : ((k : Int) != (c : Int)) = true := by rw [bne_iff_ne]; omega
        have hv' := Lib.hid (show nth zs k = nth xs k - 1 by rw [hv.out, if_pos (.inl h1)])
        have hs' := Lib.hid (show (zs.take (k + 1)).eraseIdx c = ys ++ [nth xs k - 1] by rw [hs.out, if_neg (by omega), hv'.out])
        clear h1
        generalize nth xs k = y at *
        go_wp2_with (at_builtin; refine wpList_append_own _ rfl _ _ 30 rfl w.heap.size 3 i0 (.int .i64 0) 1 8 Try.underlying30 G0.out G1.out G2.out G3.out rfl (by decide) _ _ _ rfl (hown.alloc _) ⟨_, 0, none⟩ 1 1 [.int .i64 (y - 1)] rfl rfl (cell_one_new _ _ _) (by simp [Value.oneCell']) (by unfold maxLen; omega) (by omega) (by have := B0.size; simp; omega) ?_; intro v' w2 hown2 hgrow _)
        have hsz := B0.size
        have B2 := (B0.alloc hsz _).grown hgrow (by simp; omega) (fun q hq => by have := (hown.lt q hq).1; omega)
        go_roundw
        case rel => exact ⟨k + 1, by omega, by go_num, by rw [hs'.out, List.length_append, show lI (ys ++ [y - 1]) = lI ys ++ [.int .i64 (y - 1)] by simp [lI]]; exact hown2, B2⟩
        case measure => simp [intOf]; omega
      · have g1 : ((k : Int) == ((c : Int) + 1) % (n : Int)) = false := by rw [beq_eq_false_iff_ne]; omega
        by_cases h2 : k = pv
        · have g2 : ((k : Int) == ((c : Int) + (n : Int) - 1) % (n : Int)) = true := by rw [beq_iff_eq]; omega
          have g3 : ((k : Int) != (c : Int)) = true := by rw [bne_iff_ne]; omega
          have hv' := Lib.hid (show nth zs k = nth xs k - 1 by rw [hv.out, if_pos (.inr h2)])
          have hs' := Lib.hid (show (zs.take (k + 1)).eraseIdx c = ys ++ [nth xs k - 1] by rw [hs.out, if_neg (by omega), hv'.out])
          clear h2
          generalize nth xs k = y at *
          go_wp2_with (at_builtin; refine wpList_append_own _ rfl _ _ 30 rfl w.heap.size 3 i0 (.int .i64 0) 1 8 Try.underlying30 G0.out G1.out G2.out G3.out rfl (by decide) _ _ _ rfl (hown.alloc _) ⟨_, 0, none⟩ 1 1 [.int .i64 (y - 1)] rfl rfl (cell_one_new _ _ _) (by simp [Value.oneCell']) (by unfold maxLen; omega) (by omega) (by have := B0.size; simp; omega) ?_; intro v' w2 hown2 hgrow _)
          have hsz := B0.size
          have B2 := (B0.alloc hsz _).grown hgrow (by simp; omega) (fun q hq => by have := (hown.lt q hq).1; omega)
          go_roundw
          case rel => exact ⟨k + 1, by omega, by go_num, by rw [hs'.out, List.length_append, show lI (ys ++ [y - 1]) = lI ys ++ [.int .i64 (y - 1)] by simp [lI]]; exact hown2, B2⟩
          case measure => simp [intOf]; omega
        · have g2 : ((k : Int) == ((c : Int) + (n : Int) - 1) % (n : Int)) = false := by rw [beq_eq_false_iff_ne]; omega
          by_cases h4 : k = c
          · have g3 : ((k : Int) != (c : Int)) = false := by rw [bne_eq_false_iff_eq]; omega
            have hs' := Lib.hid (show (zs.take (k + 1)).eraseIdx c = ys by rw [hs.out, if_pos h4])
            clear h4
            go_wp2_with fail
            go_roundw
            case rel => exact ⟨k + 1, by omega, by go_num, by rw [hs'.out]; exact hown, B0⟩
            case measure => simp [intOf]; omega
          · have g3 : ((k : Int) != (c : Int)) = true := by rw [bne_iff_ne]; omega
            have hv' := Lib.hid (show nth zs k = nth xs k by rw [hv.out, if_neg (by omega)])
            have hs' := Lib.hid (show (zs.take (k + 1)).eraseIdx c = ys ++ [nth xs k] by rw [hs.out, if_neg h4, hv'.out])
            generalize nth xs k = y at *
            go_wp2_with (at_builtin; refine wpList_append_own _ rfl _ _ 30 rfl w.heap.size 3 i0 (.int .i64 0) 1 8 Try.underlying30 G0.out G1.out G2.out G3.out rfl (by decide) _ _ _ rfl (hown.alloc _) ⟨_, 0, none⟩ 1 1 [.int .i64 y] rfl rfl (cell_one_new _ _ _) (by simp [Value.oneCell']) (by unfold maxLen; omega) (by omega) (by have := B0.size; simp; omega) ?_; intro v' w2 hown2 hgrow _)
            have hsz := B0.size
            have B2 := (B0.alloc hsz _).grown hgrow (by simp; omega) (fun q hq => by have := (hown.lt q hq).1; omega)
            go_roundw
            case rel => exact ⟨k + 1, by omega, by go_num, by rw [hs'.out, List.length_append, show lI (ys ++ [y]) = lI ys ++ [.int .i64 y] by simp [lI]]; exact hown2, B2⟩
            case measure => simp [intOf]; omega
    · obtain rfl : k = n := by omega
      have e1 : zs.take k = zs := List.take_of_length_le (by rw [hll.out]; exact Nat.le_refl _)
      rw [e1] at hown
      obtain ⟨a2, c2, rfl, hc2, hi2⟩ := own_intsA hown rfl
      go_wp2_with fail
      go_ret2
      exact ⟨a2, c2, rfl, hi2, hc2, B0⟩
end
section
open Go Go.RowKit

set_option maxRecDepth 100000 in
set_option maxHeartbeats 4000000 in
theorem refCut_any (a : Option Addr) (n cp : Nat) (c : Int) (xs : List Int) (w : World) (h : Ints w a xs) (hn : xs.length = n) (hm : n ≤ 4611686018427387904) :
    Calls Try.prog 37 #[.slice a n cp, .int .i64 c] w (GotI (cutO xs c) (cutE xs c) w) := by
  have K := Lib.hid (refIsRound_any a n cp xs w h hn hm)
  by_cases hP : RoundP xs ∧ CornP xs.length c
  · obtain ⟨hR, hC⟩ := hP
    have hP : RoundP xs ∧ CornP xs.length c := ⟨hR, hC⟩
    rw [hn] at hC
    obtain ⟨c, rfl⟩ : ∃ k : Nat, c = k := ⟨c.toNat, by have := hC.1; omega⟩
    have h3 := hR.1
    have h12 := hR.2.1
    have hcn : c < n := by have := hC.2; omega
    obtain ⟨b, off, rfl, hc⟩ := ints_at h (by omega)
    rw [hn] at hc
    by_cases he : xs.length = 3 ∨ ¬ EarP xs c
    · rw [(cut_state hP (by simpa using he)).1, (cut_state hP (by simpa using he)).2]
      rw [decide_eq_true hR] at K
      obtain ⟨m0, m1, m2⟩ := mod_ahead c n (by omega)
      obtain ⟨m3, m4, m5⟩ := mod_at1 c n (by omega)
      have x0 := hc c hcn
      have x1 := hc ((c + n - 1) % n) (Nat.mod_lt _ (by omega))
      have x2 := hc ((c + 1) % n) (Nat.mod_lt _ (by omega))
      have b1 := hR.2.2 ((c + n - 1) % n) (by rw [hn]; exact Nat.mod_lt _ (by omega))
      have b2 := hR.2.2 ((c + 1) % n) (by rw [hn]; exact Nat.mod_lt _ (by omega))
      have hc00 : ¬ (c : Int) < 0 := by omega
      have hc01 : ¬ n ≤ c := by omega
      have hcase : ((nth xs c != 1) = true) ∨ ((nth xs c != 1) = false ∧ (nth xs ((c + 1) % n) == 1) = true) ∨ ((nth xs c != 1) = false ∧ (nth xs ((c + 1) % n) == 1) = false ∧ (nth xs ((c + n - 1) % n) == 1) = true) ∨ ((nth xs c != 1) = false ∧ (nth xs ((c + 1) % n) == 1) = false ∧ (nth xs ((c + n - 1) % n) == 1) = false ∧ ((n : Int) == 3) = true) := by
        simp only [bne_iff_ne, bne_eq_false_iff_eq, beq_iff_eq, beq_eq_false_iff_ne]
        unfold EarP at he
        rw [hn] at he
        omega
      clear he hP hR hC h b1 b2 hc
      generalize nth xs c = y0 at *
      generalize nth xs ((c + 1) % n) = y2 at *
      generalize nth xs ((c + n - 1) % n) = y1 at *
      rcases hcase with g1 | ⟨g1, g2⟩ | ⟨g1, g2, g3⟩ | ⟨g1, g2, g3, g4⟩
      all_goals (
        go_enter Try.func37, Try.ntmps37
        go_wp2_with (go_at_call 44; refine K.out.mono ?_; rintro e w1 ⟨rfl, rfl⟩)
        go_ret2
        exact GotI.none 9 (Below.refl _ _))
    · rw [(cut_ok hP (by simpa using he)).1, (cut_ok hP (by simpa using he)).2]
      rw [Int.toNat_natCast]
      exact refCut_ok b off n cp c xs w hc hn hR hcn (Classical.byContradiction fun h => he (.inr h)) (by have := mt Or.inl he; omega) (by omega)
  · rw [(cut_arg hP).1, (cut_arg hP).2]
    by_cases hR : RoundP xs
    · rw [decide_eq_true hR] at K
      have hcase : c < 0 ∨ (0 ≤ c ∧ (n : Int) ≤ c) := by
        rw [hn] at hP
        unfold CornP at hP
        refine Classical.byContradiction fun hh => hP ⟨hR, by omega, by omega⟩
      clear hP hR h
      rcases hcase with h1 | ⟨h1, h2⟩
      all_goals (
        go_enter Try.func37, Try.ntmps37
        go_wp2_with (go_at_call 44; refine K.out.mono ?_; rintro e w1 ⟨rfl, rfl⟩)
        go_ret2
        exact GotI.none 2 (Below.refl _ _))
    · rw [decide_eq_false hR] at K
      clear hP hR h
      go_enter Try.func37, Try.ntmps37
      go_wp2_with (go_at_call 44; refine K.out.mono ?_; rintro e w1 ⟨rfl, rfl⟩)
      go_ret2
      exact GotI.none 2 (Below.refl _ _)
/-- The list with a 1 behind c, whose neighbours are made greater by 1. -/
def glueL (xs : List Int) (c : Nat) : List Int := insV (bump (bump xs c) ((c + 1) % xs.length)) (c + 1) 1
theorem glueL_length (xs : List Int) (c : Nat) (hc : c < xs.length) : (glueL xs c).length = xs.length + 1 := by
  unfold glueL
  rw [insV_length _ _ _ (by rw [bump_length, bump_length]; omega), bump_length, bump_length]
set_option maxRecDepth 100000 in
set_option maxHeartbeats 1600000 in
theorem Glue_ok (b off n cp c : Nat) (xs : List Int) (w : World) (hc : ∀ i, i < n → w.cell? ⟨b, off + i, none⟩ = some (.int .i64 (nth xs i))) (hn : xs.length = n) (hR : RoundP xs) (hcn : c < n) (h12 : n < 12) (hy1 : nth xs c ≠ 12) (hy2 : nth xs ((c + 1) % n) ≠ 12) :
    Calls Try.prog 38 #[.slice (some ⟨b, off, none⟩) n cp, .int .i64 c] w (GotI (glueL xs c) 0 w) := by
  have h3 := hR.1
  have K := Lib.hid (isRound_any (some ⟨b, off, none⟩) n cp xs w (.inr ⟨b, off, rfl, fun i hi => hc i (by omega)⟩) hn (by omega))
  rw [decide_eq_true hR] at K
  have C := isCorner_any n c
  rw [decide_eq_true (show CornP n c from ⟨by omega, by omega⟩)] at C
  have B := fun W => after_any n c W (by omega) (by omega) (by omega)
  have T := Lib.hid (clone_any b off n cp xs w hn (by omega) (by omega) hc)
  obtain ⟨m3, m4, m5⟩ := mod_at1 c n (by omega)
  have hnx : (c + 1) % n < n := Nat.mod_lt _ (by omega)
  have hne : (c + 1) % n ≠ c := by rw [mod_small (by omega)]; split <;> omega
  have x0 := hc c hcn
  have x1 := hc ((c + 1) % n) hnx
  have hb0 := hR.2.2 c (by omega)
  have hb1 := hR.2.2 ((c + 1) % n) (by omega)
  obtain ⟨ys, hys⟩ : ∃ ys, ys = bump xs c := ⟨_, rfl⟩
  have hyl : ys.length = n := by rw [hys, bump_length, hn]
  have e1 : nth ys ((c + 1) % n) = nth xs ((c + 1) % n) := by rw [hys, bump, nth_set (by omega), if_neg hne]
  have hgl : glueL xs c = insV (ys.set ((c + 1) % n) (nth xs ((c + 1) % n) + 1)) (c + 1) 1 := by
    unfold glueL
    rw [hn, ← hys]
    unfold bump
    rw [e1]
  have hlen := glueL_length xs c (by omega)
  have g1 : Hid ((lI xs)[c]? = some (.int .i64 (nth xs c))) := Lib.hid (lI_get (by omega))
  have g2 : Hid ((lI ys)[(c + 1) % n]? = some (.int .i64 (nth xs ((c + 1) % n)))) := Lib.hid (by rw [lI_get (by omega), e1])
  have gs : Hid ((lI xs).set c (.int .i64 (nth xs c + 1)) = lI ys) := Lib.hid (by rw [lI_set, hys]; rfl)
  have gz : Hid ((lI ys).set ((c + 1) % n) (.int .i64 (nth xs ((c + 1) % n) + 1)) = lI (ys.set ((c + 1) % n) (nth xs ((c + 1) % n) + 1))) := Lib.hid (by rw [lI_set])
  replace hgl := Lib.hid hgl
  replace hlen := Lib.hid hlen
  replace hn := Lib.hid hn
  have q0 : (nth xs c == 12) = false := by rw [beq_eq_false_iff_ne]; exact hy1
  have q1 : (nth xs ((c + 1) % n) == 12) = false := by rw [beq_eq_false_iff_ne]; exact hy2
  have q2 : ((n : Int) == 12) = false := by rw [beq_eq_false_iff_ne]; omega
  clear hys hyl e1 hR hc hy1 hy2
  obtain ⟨u1, u2⟩ := hb0
  obtain ⟨u3, u4⟩ := hb1
  generalize nth xs c = y0 at *
  generalize nth xs ((c + 1) % n) = y1 at *
  go_enter Try.func38, Try.ntmps38
  go_wp2_with (first
    | (go_at_call 54; refine K.out.mono ?_; rintro e w1 ⟨rfl, rfl⟩)
    | (go_at_call 59; refine (C _).mono ?_; rintro e w1 ⟨rfl, rfl⟩)
    | (go_at_call 61; refine (B _).mono ?_; rintro e w1 ⟨rfl, rfl⟩)
    | (go_at_call 66; refine T.out.mono ?_; rintro e w1 ⟨g, cap, rfl, hown, B0⟩; have e1 := hown.cellAt c (by omega); rw [g1.out] at e1; have f1 := hown.frozenAt c; have st := hown.stored c (.int .i64 (y0 + 1)); rw [gs.out] at st; have e2 := st.1.cellAt ((c + 1) % n) (by omega); rw [g2.out] at e2; have f2 := hown.frozenAt ((c + 1) % n); have hlt := (hown.lt _ rfl).2))
  have st2 := st.1.stored ((c + 1) % n) (.int .i64 (y1 + 1))
  rw [gz.out] at st2
  have X0 := Blk.new ((w1.setCell ⟨g, c, none⟩ (.int .i64 (y0 + 1))).setCell ⟨g, (c + 1) % n, none⟩ (.int .i64 (y1 + 1))) 3 #[.int .i64 1]
  have B3 : Below w.heap.size w (((w1.setCell ⟨g, c, none⟩ (.int .i64 (y0 + 1))).setCell ⟨g, (c + 1) % n, none⟩ (.int .i64 (y1 + 1))).alloc (.cells #[.int .i64 1] 3)) :=
    ((B0.setCell (p := ⟨g, c, none⟩) (hown.lt _ rfl).1 _).setCell (p := ⟨g, (c + 1) % n, none⟩) (hown.lt _ rfl).1 _).alloc (by have := B0.size; simp; omega) _
  have hl2 : g < ((w1.setCell ⟨g, c, none⟩ (.int .i64 (y0 + 1))).setCell ⟨g, (c + 1) % n, none⟩ (.int .i64 (y1 + 1))).heap.size := (st2.1.lt _ rfl).2
  have I := insert_any w.heap.size g n cap (c + 1) _ _ 1 _ (st2.1.alloc (.cells #[.int .i64 1] 3)) (by omega) (by omega) (by omega) X0 (by omega) B3.size
  rw [← hgl.out, show ((c + 1 : Nat) : Int) = (c : Int) + 1 by omega] at I
  have hsz : (((w1.setCell ⟨g, c, none⟩ (.int .i64 (y0 + 1))).setCell ⟨g, (c + 1) % n, none⟩ (.int .i64 (y1 + 1))).heap.size) = w1.heap.size := by simp
  rw [hsz] at I
  refine I.mono ?_
  clear I X0 st st2 e1 e2 f1 f2 hown B0
  rintro e w4 ⟨g', cap', rfl, hown4, B4⟩
  dsimp only
  go_wp2
  go_ret2
  have ho := own_ints hown4
  exact ⟨_, _, by rw [hlen.out, hn.out]; rfl, .inr ⟨g', 0, rfl, fun i hi => ho.2 i (by rw [hlen.out, hn.out] at hi; exact hi)⟩, by rw [hlen.out, hn.out]; exact (own_cap hown4).1, B3.trans B4⟩
end
section
open Go Go.RowKit

def glueE (xs : List Int) (c : Int) : Int := if RoundP xs ∧ CornP xs.length c then if xs.length = 12 then 8 else if nth xs c.toNat = 12 ∨ nth xs ((c.toNat + 1) % xs.length) = 12 then 4 else 0 else 2
def glueO (xs : List Int) (c : Int) : List Int := if glueE xs c = 0 then glueL xs c.toNat else []
theorem glue_none {xs : List Int} {c e : Int} (h : glueE xs c = e) (h0 : e ≠ 0) : glueO xs c = [] := by unfold glueO; rw [h, if_neg h0]
theorem glue_some {xs : List Int} {c : Int} (h : glueE xs c = 0) : glueO xs c = glueL xs c.toNat := by unfold glueO; rw [h, if_pos rfl]
set_option maxRecDepth 100000 in
set_option maxHeartbeats 1600000 in
theorem Glue_any (a : Option Addr) (n cp : Nat) (c : Int) (xs : List Int) (w : World) (h : Ints w a xs) (hn : xs.length = n) (hm : n ≤ 4611686018427387904) :
    Calls Try.prog 38 #[.slice a n cp, .int .i64 c] w (GotI (glueO xs c) (glueE xs c) w) := by
  have K := Lib.hid (isRound_any a n cp xs w h hn hm)
  by_cases hP : RoundP xs ∧ CornP xs.length c
  · obtain ⟨hR, hC⟩ := hP
    have hP : RoundP xs ∧ CornP xs.length c := ⟨hR, hC⟩
    rw [hn] at hC
    obtain ⟨c, rfl⟩ : ∃ k : Nat, c = k := ⟨c.toNat, by have := hC.1; omega⟩
    have h3 := hR.1
    have h12 := hR.2.1
    have hcn : c < n := by have := hC.2; omega
    obtain ⟨b, off, rfl, hc⟩ := ints_at h (by omega)
    rw [hn] at hc
    by_cases e12 : n = 12
    · have hE : glueE xs c = 8 := by unfold glueE; rw [if_pos hP, hn, if_pos e12]
      rw [glue_none hE (by decide), hE]
      rw [decide_eq_true hR] at K
      have C := isCorner_any n c
      rw [decide_eq_true hC] at C
      have q2 : ((n : Int) == 12) = true := by rw [beq_iff_eq]; omega
      clear hP hR hC h hc hE e12
      go_enter Try.func38, Try.ntmps38
      go_wp2_with (first
        | (go_at_call 54; refine K.out.mono ?_; rintro e w1 ⟨rfl, rfl⟩)
        | (go_at_call 59; refine (C _).mono ?_; rintro e w1 ⟨rfl, rfl⟩))
      go_ret2
      exact GotI.none 8 (Below.refl _ _)
    · by_cases hy : nth xs c = 12 ∨ nth xs ((c + 1) % n) = 12
      · have hE : glueE xs c = 4 := by unfold glueE; rw [if_pos hP, hn, if_neg e12, Int.toNat_natCast, if_pos hy]
        rw [glue_none hE (by decide), hE]
        rw [decide_eq_true hR] at K
        have C := isCorner_any n c
        rw [decide_eq_true hC] at C
        have B := fun W => after_any n c W (by omega) (by omega) (by omega)
        obtain ⟨m3, m4, m5⟩ := mod_at1 c n (by omega)
        have x0 := hc c hcn
        have x1 := hc ((c + 1) % n) (Nat.mod_lt _ (by omega))
        have q2 : ((n : Int) == 12) = false := by rw [beq_eq_false_iff_ne]; omega
        have hcase : (nth xs c == 12) = true ∨ ((nth xs c == 12) = false ∧ (nth xs ((c + 1) % n) == 12) = true) := by
          simp only [beq_iff_eq, beq_eq_false_iff_ne]
          omega
        clear hP hR hC h hc hE e12 hy
        generalize nth xs c = y0 at *
        generalize nth xs ((c + 1) % n) = y1 at *
        rcases hcase with g1 | ⟨g1, g2⟩
        all_goals (
          go_enter Try.func38, Try.ntmps38
          go_wp2_with (first
            | (go_at_call 54; refine K.out.mono ?_; rintro e w1 ⟨rfl, rfl⟩)
            | (go_at_call 59; refine (C _).mono ?_; rintro e w1 ⟨rfl, rfl⟩)
            | (go_at_call 61; refine (B _).mono ?_; rintro e w1 ⟨rfl, rfl⟩))
          go_ret2
          exact GotI.none 4 (Below.refl _ _))
      · have hE : glueE xs c = 0 := by unfold glueE; rw [if_pos hP, hn, if_neg e12, Int.toNat_natCast, if_neg hy]
        rw [glue_some hE, hE, Int.toNat_natCast]
        exact Glue_ok b off n cp c xs w hc hn hR hcn (by omega) (fun h => hy (.inl h)) (fun h => hy (.inr h))
  · have hE : glueE xs c = 2 := by unfold glueE; rw [if_neg hP]
    rw [glue_none hE (by decide), hE]
    by_cases hR : RoundP xs
    · rw [decide_eq_true hR] at K
      have C := isCorner_any n c
      rw [decide_eq_false (fun hh => hP ⟨hR, by rw [hn]; exact hh⟩)] at C
      clear hP hR h hE
      go_enter Try.func38, Try.ntmps38
      go_wp2_with (first
        | (go_at_call 54; refine K.out.mono ?_; rintro e w1 ⟨rfl, rfl⟩)
        | (go_at_call 59; refine (C _).mono ?_; rintro e w1 ⟨rfl, rfl⟩))
      go_ret2
      exact GotI.none 2 (Below.refl _ _)
    · rw [decide_eq_false hR] at K
      clear hP hR h hE
      go_enter Try.func38, Try.ntmps38
      go_wp2_with (go_at_call 54; refine K.out.mono ?_; rintro e w1 ⟨rfl, rfl⟩)
      go_ret2
      exact GotI.none 2 (Below.refl _ _)
/-- What the specification has written before corner i. -/
def gT (zs : List Int) (c i : Nat) : List Int := if i ≤ c then zs.take i else insV (zs.take i) (c + 1) 1
theorem take_nth {zs : List Int} {i : Nat} (hi : i < zs.length) : zs.take (i + 1) = zs.take i ++ [nth zs i] := by
  rw [List.take_add_one]
  congr 1
  simp [nth, hi]
theorem gT_succ {zs : List Int} {c i : Nat} (hi : i < zs.length) : gT zs c (i + 1) = if i = c then gT zs c i ++ [nth zs i] ++ [1] else gT zs c i ++ [nth zs i] := by
  have hl : (zs.take i).length = i := by simp; omega
  by_cases h1 : i < c
  · have e1 : gT zs c (i + 1) = zs.take (i + 1) := by unfold gT; rw [if_pos (by omega)]
    have e2 : gT zs c i = zs.take i := by unfold gT; rw [if_pos (by omega)]
    rw [e1, e2, if_neg (by omega), take_nth hi]
  · by_cases h2 : i = c
    · subst h2
      have e1 : gT zs i (i + 1) = insV (zs.take (i + 1)) (i + 1) 1 := by unfold gT; rw [if_neg (by omega)]
      have e2 : gT zs i i = zs.take i := by unfold gT; rw [if_pos (by omega)]
      rw [e1, e2, if_pos rfl, take_nth hi]
      unfold insV
      rw [List.take_of_length_le (by simp [hl]), List.drop_eq_nil_of_le (by simp [hl])]
    · have e1 : gT zs c (i + 1) = insV (zs.take (i + 1)) (c + 1) 1 := by unfold gT; rw [if_neg (by omega)]
      have e2 : gT zs c i = insV (zs.take i) (c + 1) 1 := by unfold gT; rw [if_neg (by omega)]
      rw [e1, e2, if_neg h2, take_nth hi]
      unfold insV
      rw [List.take_append_of_le_length (by omega), List.drop_append_of_le_length (by omega)]
      simp
theorem gT_length {zs : List Int} {c i : Nat} (hi : i ≤ zs.length) : (gT zs c i).length ≤ i + 1 := by
  have hl : (zs.take i).length = i := by simp; omega
  unfold gT
  split
  · omega
  · rw [insV_length _ _ _ (by omega)]; omega
theorem gT_end {zs : List Int} {c n : Nat} (hn : zs.length = n) (hc : c < n) : gT zs c n = insV zs (c + 1) 1 := by
  unfold gT
  rw [if_neg (by omega), List.take_of_length_le (by omega)]
theorem lI_snoc (ys : List Int) (y : Int) : lI (ys ++ [y]) = lI ys ++ [.int .i64 y] := by simp [lI]
set_option maxRecDepth 100000 in
set_option maxHeartbeats 4000000 in
theorem refGlue_ok (b off n cp c : Nat) (xs : List Int) (w : World) (hc : ∀ i, i < n → w.cell? ⟨b, off + i, none⟩ = some (.int .i64 (nth xs i))) (hn : xs.length = n) (hR : RoundP xs) (hcn : c < n) (h12 : n < 12) (hy1 : nth xs c ≠ 12) (hy2 : nth xs ((c + 1) % n) ≠ 12) :
    Calls Try.prog 39 #[.slice (some ⟨b, off, none⟩) n cp, .int .i64 c] w (GotI (glueL xs c) 0 w) := by
  obtain ⟨i0, hi0, hz0, hz1, hz2⟩ := info_parts infoInt
  have G0 := Lib.hid hi0
  have G1 := Lib.hid hz0
  have G2 := Lib.hid hz1
  have G3 := Lib.hid hz2
  clear hi0 hz0 hz1 hz2
  have h3 := hR.1
  have K := Lib.hid (refIsRound_any (some ⟨b, off, none⟩) n cp xs w (.inr ⟨b, off, rfl, fun i hi => hc i (by omega)⟩) hn (by omega))
  rw [decide_eq_true hR] at K
  obtain ⟨m3, m4, m5⟩ := mod_at1 c n (by omega)
  obtain ⟨nx, hnx⟩ : ∃ nx, nx = (c + 1) % n := ⟨_, rfl⟩
  have hnn : nx < n := by rw [hnx]; exact Nat.mod_lt _ (by omega)
  have hnc : nx ≠ c := by rw [hnx, mod_small (by omega)]; split <;> omega
  rw [← hnx] at m5 hy2
  have x0 := hc c hcn
  have x2 := hc nx hnn
  have q1 : (nth xs c == 12) = false := by rw [beq_eq_false_iff_ne]; exact hy1
  have q2 : (nth xs nx == 12) = false := by rw [beq_eq_false_iff_ne]; exact hy2
  have hn3 : ((n : Int) == 12) = false := by rw [beq_eq_false_iff_ne]; omega
  obtain ⟨zs, hzs⟩ : ∃ zs, zs = bump (bump xs c) nx := ⟨_, rfl⟩
  have hll : zs.length = n := by rw [hzs, bump_length, bump_length, hn]
  have hle : ∀ k, nth zs k = if k = c ∨ k = nx then nth xs k + 1 else nth xs k := fun k => by
    rw [hzs, nth_bump (by rw [bump_length]; omega), nth_bump (by omega)]
    by_cases h1 : k = c <;> by_cases h2 : k = nx
    · omega
    · rw [if_pos h1, if_neg h2, if_pos (.inl h1)]; omega
    · rw [if_neg h1, if_pos h2, if_pos (.inr h2)]; omega
    · rw [if_neg h1, if_neg h2, if_neg (by omega)]; omega
  have hfin : Hid (glueL xs c = gT zs c n) := Lib.hid (by rw [gT_end hll hcn]; unfold glueL; rw [hzs, hn, hnx])
  have hstep := Lib.hid (fun i (hi : i < n) => gT_succ (zs := zs) (c := c) (i := i) (by omega))
  have hlen := Lib.hid (fun i (hi : i ≤ n) => gT_length (zs := zs) (c := c) (i := i) (by omega))
  have hbd := Lib.hid (fun k (hk : k < n) => hR.2.2 k (by omega))
  replace hle := Lib.hid hle
  replace hc := Lib.hid hc
  replace hn := Lib.hid hn
  have h0 : Hid (gT zs c 0 = []) := Lib.hid (by unfold gT; rw [if_pos (by omega)]; simp)
  clear hR hzs hnx hy1 hy2 hll
  have hc00 : ¬ (c : Int) < 0 := by omega
  have hc01 : ¬ n ≤ c := by omega
  go_enter Try.func39, Try.ntmps39
  go_wp2_with (go_at_call 44; refine K.out.mono ?_; rintro e w1 ⟨rfl, rfl⟩)
  clear x0 x2 q1 q2
  go_loopw [7, 8, 9] (fun v i _ wr => ∃ k : Nat, k ≤ n ∧ i = .int .i64 k ∧ wr.ownsRow w.heap.size 3 1 v (gT zs c k).length (lI (gT zs c k)) ∧ Below w.heap.size w wr) (fun _ i _ _ => n - (intOf i).toNat)
  case atStart => exact ⟨0, by omega, rfl, by rw [h0.out]; exact World.ownsRow_nil _ _ _ _, Below.refl _ _⟩
  case round =>
    obtain ⟨k, hk, rfl, hown, B0⟩ := hrel
    by_cases hlt : k < n
    · have x0 := cellB B0 (hc.out k hlt)
      have hs := Lib.hid (hstep.out k hlt)
      have hv := Lib.hid (hle.out k)
      obtain ⟨v1, v2⟩ := hbd.out k hlt
      have hlk := hlen.out k hk
      have hi1 : (k : Int) < (n : Int) := by omega
      generalize gT zs c k = ys at *
      by_cases h1 : k = c
      · have g1 : ((k : Int) == (c : Int)) = true := by rw [beq_iff_eq]; omega
        have hs' := Lib.hid (show gT zs c (k + 1) = ys ++ [nth xs k + 1] ++ [1] by rw [hs.out, if_pos h1, hv.out, if_pos (.inl h1)])
        clear h1
        generalize nth xs k = y at *
        have hsz := B0.size
        go_wp2_with (first
          | (at_builtin; refine wpList_append_own _ rfl _ _ 30 rfl w.heap.size 3 i0 (.int .i64 0) 1 8 Try.underlying30 G0.out G1.out G2.out G3.out rfl (by decide) _ _ _ rfl (hown.alloc _) ⟨_, 0, none⟩ 1 1 [.int .i64 (y + 1)] rfl rfl (cell_one_new _ _ _) (by simp [Value.oneCell']) (by unfold maxLen; omega) (by omega) (by have := hsz; simp; omega) ?_; intro v2 w2 hown2 hgrow2 _; have B2 := (B0.alloc hsz _).grown hgrow2 (by simp; omega) (fun q hq => by have := (hown.lt q hq).1; omega); have hsz2 := B2.size; rw [← lI_snoc] at hown2)
          | (at_builtin; refine wpList_append_own _ rfl _ _ 30 rfl w.heap.size 3 i0 (.int .i64 0) 1 8 Try.underlying30 G0.out G1.out G2.out G3.out rfl (by decide) _ _ _ rfl (hown2.alloc _) ⟨_, 0, none⟩ 1 1 [.int .i64 1] rfl rfl (cell_one_new _ _ _) (by simp [Value.oneCell']) (by unfold maxLen; omega) (by omega) (by have := hsz2; simp; omega) ?_; intro v3 w3 hown3 hgrow3 _; rw [← lI_snoc] at hown3))
        have B3 := (B2.alloc hsz2 _).grown hgrow3 (by simp; omega) (fun q hq => by have := (hown2.lt q hq).1; omega)
        go_roundw
        case rel => exact ⟨k + 1, by omega, by go_num, by rw [hs'.out, List.length_append, List.length_append]; exact hown3, B3⟩
        case measure => simp [intOf]; omega
      · have g1 : ((k : Int) == (c : Int)) = false := by rw [beq_eq_false_iff_ne]; omega
        by_cases h2 : k = nx
        · have g2 : ((k : Int) == ((c : Int) + 1) % (n : Int)) = true := by rw [beq_iff_eq]; omega
          have hs' := Lib.hid (show gT zs c (k + 1) = ys ++ [nth xs k + 1] by rw [hs.out, if_neg h1, hv.out, if_pos (.inr h2)])
          clear h1 h2
          generalize nth xs k = y at *
          have hsz := B0.size
          go_wp2_with (at_builtin; refine wpList_append_own _ rfl _ _ 30 rfl w.heap.size 3 i0 (.int .i64 0) 1 8 Try.underlying30 G0.out G1.out G2.out G3.out rfl (by decide) _ _ _ rfl (hown.alloc _) ⟨_, 0, none⟩ 1 1 [.int .i64 (y + 1)] rfl rfl (cell_one_new _ _ _) (by simp [Value.oneCell']) (by unfold maxLen; omega) (by omega) (by have := hsz; simp; omega) ?_; intro v2 w2 hown2 hgrow2 _)
          have B2 := (B0.alloc hsz _).grown hgrow2 (by simp; omega) (fun q hq => by have := (hown.lt q hq).1; omega)
          go_roundw
          case rel => exact ⟨k + 1, by omega, by go_num, by rw [hs'.out, List.length_append, lI_snoc]; exact hown2, B2⟩
          case measure => simp [intOf]; omega
        · have g2 : ((k : Int) == ((c : Int) + 1) % (n : Int)) = false := by rw [beq_eq_false_iff_ne]; omega
          have hs' := Lib.hid (show gT zs c (k + 1) = ys ++ [nth xs k] by rw [hs.out, if_neg h1, hv.out, if_neg (by omega)])
          clear h1 h2
          generalize nth xs k = y at *
          have hsz := B0.size
          go_wp2_with (at_builtin; refine wpList_append_own _ rfl _ _ 30 rfl w.heap.size 3 i0 (.int .i64 0) 1 8 Try.underlying30 G0.out G1.out G2.out G3.out rfl (by decide) _ _ _ rfl (hown.alloc _) ⟨_, 0, none⟩ 1 1 [.int .i64 y] rfl rfl (cell_one_new _ _ _) (by simp [Value.oneCell']) (by unfold maxLen; omega) (by omega) (by have := hsz; simp; omega) ?_; intro v2 w2 hown2 hgrow2 _)
          have B2 := (B0.alloc hsz _).grown hgrow2 (by simp; omega) (fun q hq => by have := (hown.lt q hq).1; omega)
          go_roundw
          case rel => exact ⟨k + 1, by omega, by go_num, by rw [hs'.out, List.length_append, lI_snoc]; exact hown2, B2⟩
          case measure => simp [intOf]; omega
    · obtain rfl : k = n := by omega
      rw [← hfin.out] at hown
      obtain ⟨a2, c2, rfl, hc2, hi2⟩ := own_intsA hown rfl
      go_wp2_with fail
      go_ret2
      exact ⟨a2, c2, rfl, hi2, hc2, B0⟩
end
end Go.Proofs.Ytflbaadfbjpakaa
