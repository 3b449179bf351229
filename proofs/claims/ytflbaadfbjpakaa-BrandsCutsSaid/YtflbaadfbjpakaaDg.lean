/- Layer 2: Glue, by both sides. -/
import Derived.Test.YtflbaadfbjpakaaDf
namespace Go.Proofs.Ytflbaadfbjpakaa
open Go Go.RowKit

def glueE (xs : List Int) (c : Int) : Int := if RoundP xs ∧ CornP xs.length c then if xs.length = 12 then 8 else if nth xs c.toNat = 12 ∨ nth xs ((c.toNat + 1) % xs.length) = 12 then 4 else 0 else 2
def glueO (xs : List Int) (c : Int) : List Int := if glueE xs c = 0 then glueL xs c.toNat else []
theorem glue_none {xs : List Int} {c e : Int} (h : glueE xs c = e) (h0 : e ≠ 0) : glueO xs c = [] := by unfold glueO; rw [h, if_neg h0]
theorem glue_some {xs : List Int} {c : Int} (h : glueE xs c = 0) : glueO xs c = glueL xs c.toNat := by unfold glueO; rw [h, if_pos rfl]
set_option maxRecDepth 100000 in
set_option maxHeartbeats 1600000 in
theorem Glue_any (a : Option Addr) (n cp : Nat) (c : Int) (xs : List Int) (w : World) (h : Ints w a xs) (hn : xs.length = n) (hm : n ≤ 4611686018427387904) :
    Calls Try.prog 38 #[.slice a n cp, .int .i64 c] w (GotI (glueO xs c) (glueE xs c) w) := by
  have K := Lib.hid (isRound_any a n cp xs w h hn hm)
  by_cases hP : RoundP xs ∧ CornP xs.length c
  · obtain ⟨hR, hC⟩ := hP
    have hP : RoundP xs ∧ CornP xs.length c := ⟨hR, hC⟩
    rw [hn] at hC
    obtain ⟨c, rfl⟩ : ∃ k : Nat, c = k := ⟨c.toNat, by have := hC.1; omega⟩
    have h3 := hR.1
    have h12 := hR.2.1
    have hcn : c < n := by have := hC.2; omega
    obtain ⟨b, off, rfl, hc⟩ := ints_at h (by omega)
    rw [hn] at hc
    by_cases e12 : n = 12
    · have hE : glueE xs c = 8 := by unfold glueE; rw [if_pos hP, hn, if_pos e12]
      rw [glue_none hE (by decide), hE]
      rw [decide_eq_true hR] at K
      have C := isCorner_any n c
      rw [decide_eq_true hC] at C
      have q2 : ((n : Int) == 12) = true := by rw [beq_iff_eq]; omega
      clear hP hR hC h hc hE e12
      go_enter Try.func38, Try.ntmps38
      go_wp2_with (first
        | (go_at_call 54; refine K.out.mono ?_; rintro e w1 ⟨rfl, rfl⟩)
        | (go_at_call 59; refine (C _).mono ?_; rintro e w1 ⟨rfl, rfl⟩))
      go_ret2
      exact GotI.none 8 (Below.refl _ _)
    · by_cases hy : nth xs c = 12 ∨ nth xs ((c + 1) % n) = 12
      · have hE : glueE xs c = 4 := by unfold glueE; rw [if_pos hP, hn, if_neg e12, Int.toNat_natCast, if_pos hy]
        rw [glue_none hE (by decide), hE]
        rw [decide_eq_true hR] at K
        have C := isCorner_any n c
        rw [decide_eq_true hC] at C
        have B := fun W => after_any n c W (by omega) (by omega) (by omega)
        obtain ⟨m3, m4, m5⟩ := mod_at1 c n (by omega)
        have x0 := hc c hcn
        have x1 := hc ((c + 1) % n) (Nat.mod_lt _ (by omega))
        have q2 : ((n : Int) == 12) = false := by rw [beq_eq_false_iff_ne]; omega
        have hcase : (nth xs c == 12) = true ∨ ((nth xs c == 12) = false ∧ (nth xs ((c + 1) % n) == 12) = true) := by
          simp only [beq_iff_eq, beq_eq_false_iff_ne]
          omega
        clear hP hR hC h hc hE e12 hy
        generalize nth xs c = y0 at *
        generalize nth xs ((c + 1) % n) = y1 at *
        rcases hcase with g1 | ⟨g1, g2⟩
        all_goals (
          go_enter Try.func38, Try.ntmps38
          go_wp2_with (first
            | (go_at_call 54; refine K.out.mono ?_; rintro e w1 ⟨rfl, rfl⟩)
            | (go_at_call 59; refine (C _).mono ?_; rintro e w1 ⟨rfl, rfl⟩)
            | (go_at_call 61; refine (B _).mono ?_; rintro e w1 ⟨rfl, rfl⟩))
          go_ret2
          exact GotI.none 4 (Below.refl _ _))
      · have hE : glueE xs c = 0 := by unfold glueE; rw [if_pos hP, hn, if_neg e12, Int.toNat_natCast, if_neg hy]
        rw [glue_some hE, hE, Int.toNat_natCast]
        exact Glue_ok b off n cp c xs w hc hn hR hcn (by omega) (fun h => hy (.inl h)) (fun h => hy (.inr h))
  · have hE : glueE xs c = 2 := by unfold glueE; rw [if_neg hP]
    rw [glue_none hE (by decide), hE]
    by_cases hR : RoundP xs
    · rw [decide_eq_true hR] at K
      have C := isCorner_any n c
      rw [decide_eq_false (fun hh => hP ⟨hR, by rw [hn]; exact hh⟩)] at C
      clear hP hR h hE
      go_enter Try.func38, Try.ntmps38
      go_wp2_with (first
        | (go_at_call 54; refine K.out.mono ?_; rintro e w1 ⟨rfl, rfl⟩)
        | (go_at_call 59; refine (C _).mono ?_; rintro e w1 ⟨rfl, rfl⟩))
      go_ret2
      exact GotI.none 2 (Below.refl _ _)
    · rw [decide_eq_false hR] at K
      clear hP hR h hE
      go_enter Try.func38, Try.ntmps38
      go_wp2_with (go_at_call 54; refine K.out.mono ?_; rintro e w1 ⟨rfl, rfl⟩)
      go_ret2
      exact GotI.none 2 (Below.refl _ _)
/-- What the specification has written before corner i. -/
def gT (zs : List Int) (c i : Nat) : List Int := if i ≤ c then zs.take i else insV (zs.take i) (c + 1) 1
theorem take_nth {zs : List Int} {i : Nat} (hi : i < zs.length) : zs.take (i + 1) = zs.take i ++ [nth zs i] := by
  rw [List.take_add_one]
  congr 1
  simp [nth, hi]
theorem gT_succ {zs : List Int} {c i : Nat} (hi : i < zs.length) : gT zs c (i + 1) = if i = c then gT zs c i ++ [nth zs i] ++ [1] else gT zs c i ++ [nth zs i] := by
  have hl : (zs.take i).length = i := by simp; omega
  by_cases h1 : i < c
  · have e1 : gT zs c (i + 1) = zs.take (i + 1) := by unfold gT; rw [if_pos (by omega)]
    have e2 : gT zs c i = zs.take i := by unfold gT; rw [if_pos (by omega)]
    rw [e1, e2, if_neg (by omega), take_nth hi]
  · by_cases h2 : i = c
    · subst h2
      have e1 : gT zs i (i + 1) = insV (zs.take (i + 1)) (i + 1) 1 := by unfold gT; rw [if_neg (by omega)]
      have e2 : gT zs i i = zs.take i := by unfold gT; rw [if_pos (by omega)]
      rw [e1, e2, if_pos rfl, take_nth hi]
      unfold insV
      rw [List.take_of_length_le (by simp [hl]), List.drop_eq_nil_of_le (by simp [hl])]
    · have e1 : gT zs c (i + 1) = insV (zs.take (i + 1)) (c + 1) 1 := by unfold gT; rw [if_neg (by omega)]
      have e2 : gT zs c i = insV (zs.take i) (c + 1) 1 := by unfold gT; rw [if_neg (by omega)]
      rw [e1, e2, if_neg h2, take_nth hi]
      unfold insV
      rw [List.take_append_of_le_length (by omega), List.drop_append_of_le_length (by omega)]
      simp
theorem gT_length {zs : List Int} {c i : Nat} (hi : i ≤ zs.length) : (gT zs c i).length ≤ i + 1 := by
  have hl : (zs.take i).length = i := by simp; omega
  unfold gT
  split
  · omega
  · rw [insV_length _ _ _ (by omega)]; omega
theorem gT_end {zs : List Int} {c n : Nat} (hn : zs.length = n) (hc : c < n) : gT zs c n = insV zs (c + 1) 1 := by
  unfold gT
  rw [if_neg (by omega), List.take_of_length_le (by omega)]
theorem lI_snoc (ys : List Int) (y : Int) : lI (ys ++ [y]) = lI ys ++ [.int .i64 y] := by simp [lI]
set_option maxRecDepth 100000 in
set_option maxHeartbeats 4000000 in
theorem refGlue_ok (b off n cp c : Nat) (xs : List Int) (w : World) (hc : ∀ i, i < n → w.cell? ⟨b, off + i, none⟩ = some (.int .i64 (nth xs i))) (hn : xs.length = n) (hR : RoundP xs) (hcn : c < n) (h12 : n < 12) (hy1 : nth xs c ≠ 12) (hy2 : nth xs ((c + 1) % n) ≠ 12) :
    Calls Try.prog 39 #[.slice (some ⟨b, off, none⟩) n cp, .int .i64 c] w (GotI (glueL xs c) 0 w) := by
  obtain ⟨i0, hi0, hz0, hz1, hz2⟩ := info_parts infoInt
  have G0 := Lib.hid hi0
  have G1 := Lib.hid hz0
  have G2 := Lib.hid hz1
  have G3 := Lib.hid hz2
  clear hi0 hz0 hz1 hz2
  have h3 := hR.1
  have K := Lib.hid (refIsRound_any (some ⟨b, off, none⟩) n cp xs w (.inr ⟨b, off, rfl, fun i hi => hc i (by omega)⟩) hn (by omega))
  rw [decide_eq_true hR] at K
  obtain ⟨m3, m4, m5⟩ := mod_at1 c n (by omega)
  obtain ⟨nx, hnx⟩ : ∃ nx, nx = (c + 1) % n := ⟨_, rfl⟩
  have hnn : nx < n := by rw [hnx]; exact Nat.mod_lt _ (by omega)
  have hnc : nx ≠ c := by rw [hnx, mod_small (by omega)]; split <;> omega
  rw [← hnx] at m5 hy2
  have x0 := hc c hcn
  have x2 := hc nx hnn
  have q1 : (nth xs c == 12) = false := by rw [beq_eq_false_iff_ne]; exact hy1
  have q2 : (nth xs nx == 12) = false := by rw [beq_eq_false_iff_ne]; exact hy2
  have hn3 : ((n : Int) == 12) = false := by rw [beq_eq_false_iff_ne]; omega
  obtain ⟨zs, hzs⟩ : ∃ zs, zs = bump (bump xs c) nx := ⟨_, rfl⟩
  have hll : zs.length = n := by rw [hzs, bump_length, bump_length, hn]
  have hle : ∀ k, nth zs k = if k = c ∨ k = nx then nth xs k + 1 else nth xs k := fun k => by
    rw [hzs, nth_bump (by rw [bump_length]; omega), nth_bump (by omega)]
    by_cases h1 : k = c <;> by_cases h2 : k = nx
    · omega
    · rw [if_pos h1, if_neg h2, if_pos (.inl h1)]; omega
    · rw [if_neg h1, if_pos h2, if_pos (.inr h2)]; omega
    · rw [if_neg h1, if_neg h2, if_neg (by omega)]; omega
  have hfin : Hid (glueL xs c = gT zs c n) := Lib.hid (by rw [gT_end hll hcn]; unfold glueL; rw [hzs, hn, hnx])
  have hstep := Lib.hid (fun i (hi : i < n) => gT_succ (zs := zs) (c := c) (i := i) (by omega))
  have hlen := Lib.hid (fun i (hi : i ≤ n) => gT_length (zs := zs) (c := c) (i := i) (by omega))
  have hbd := Lib.hid (fun k (hk : k < n) => hR.2.2 k (by omega))
  replace hle := Lib.hid hle
  replace hc := Lib.hid hc
  replace hn := Lib.hid hn
  have h0 : Hid (gT zs c 0 = []) := Lib.hid (by unfold gT; rw [if_pos (by omega)]; simp)
  clear hR hzs hnx hy1 hy2 hll
  have hc00 : ¬ (c : Int) < 0 := by omega
  have hc01 : ¬ n ≤ c := by omega
  go_enter Try.func39, Try.ntmps39
  go_wp2_with (go_at_call 44; refine K.out.mono ?_; rintro e w1 ⟨rfl, rfl⟩)
  clear x0 x2 q1 q2
  go_loopw [7, 8, 9] (fun v i _ wr => ∃ k : Nat, k ≤ n ∧ i = .int .i64 k ∧ wr.ownsRow w.heap.size 3 1 v (gT zs c k).length (lI (gT zs c k)) ∧ Below w.heap.size w wr) (fun _ i _ _ => n - (intOf i).toNat)
  case atStart => exact ⟨0, by omega, rfl, by rw [h0.out]; exact World.ownsRow_nil _ _ _ _, Below.refl _ _⟩
  case round =>
    obtain ⟨k, hk, rfl, hown, B0⟩ := hrel
    by_cases hlt : k < n
    · have x0 := cellB B0 (hc.out k hlt)
      have hs := Lib.hid (hstep.out k hlt)
      have hv := Lib.hid (hle.out k)
      obtain ⟨v1, v2⟩ := hbd.out k hlt
      have hlk := hlen.out k hk
      have hi1 : (k : Int) < (n : Int) := by omega
      generalize gT zs c k = ys at *
      by_cases h1 : k = c
      · have g1 : ((k : Int) == (c : Int)) = true := by rw [beq_iff_eq]; omega
        have hs' := Lib.hid (show gT zs c (k + 1) = ys ++ [nth xs k + 1] ++ [1] by rw [hs.out, if_pos h1, hv.out, if_pos (.inl h1)])
        clear h1
        generalize nth xs k = y at *
        have hsz := B0.size
        go_wp2_with (first
          | (at_builtin; refine wpList_append_own _ rfl _ _ 30 rfl w.heap.size 3 i0 (.int .i64 0) 1 8 Try.underlying30 G0.out G1.out G2.out G3.out rfl (by decide) _ _ _ rfl (hown.alloc _) ⟨_, 0, none⟩ 1 1 [.int .i64 (y + 1)] rfl rfl (cell_one_new _ _ _) (by simp [Value.oneCell']) (by unfold maxLen; omega) (by omega) (by have := hsz; simp; omega) ?_; intro v2 w2 hown2 hgrow2 _; have B2 := (B0.alloc hsz _).grown hgrow2 (by simp; omega) (fun q hq => by have := (hown.lt q hq).1; omega); have hsz2 := B2.size; rw [← lI_snoc] at hown2)
          | (at_builtin; refine wpList_append_own _ rfl _ _ 30 rfl w.heap.size 3 i0 (.int .i64 0) 1 8 Try.underlying30 G0.out G1.out G2.out G3.out rfl (by decide) _ _ _ rfl (hown2.alloc _) ⟨_, 0, none⟩ 1 1 [.int .i64 1] rfl rfl (cell_one_new _ _ _) (by simp [Value.oneCell']) (by unfold maxLen; omega) (by omega) (by have := hsz2; simp; omega) ?_; intro v3 w3 hown3 hgrow3 _; rw [← lI_snoc] at hown3))
        have B3 := (B2.alloc hsz2 _).grown hgrow3 (by simp; omega) (fun q hq => by have := (hown2.lt q hq).1; omega)
        go_roundw
        case rel => exact ⟨k + 1, by omega, by go_num, by rw [hs'.out, List.length_append, List.length_append]; exact hown3, B3⟩
        case measure => simp [intOf]; omega
      · have g1 : ((k : Int) == (c : Int)) = false := by rw [beq_eq_false_iff_ne]; omega
        by_cases h2 : k = nx
        · have g2 : ((k : Int) == ((c : Int) + 1) % (n : Int)) = true := by rw [beq_iff_eq]; omega
          have hs' := Lib.hid (show gT zs c (k + 1) = ys ++ [nth xs k + 1] by rw [hs.out, if_neg h1, hv.out, if_pos (.inr h2)])
          clear h1 h2
          generalize nth xs k = y at *
          have hsz := B0.size
          go_wp2_with (at_builtin; refine wpList_append_own _ rfl _ _ 30 rfl w.heap.size 3 i0 (.int .i64 0) 1 8 Try.underlying30 G0.out G1.out G2.out G3.out rfl (by decide) _ _ _ rfl (hown.alloc _) ⟨_, 0, none⟩ 1 1 [.int .i64 (y + 1)] rfl rfl (cell_one_new _ _ _) (by simp [Value.oneCell']) (by unfold maxLen; omega) (by omega) (by have := hsz; simp; omega) ?_; intro v2 w2 hown2 hgrow2 _)
          have B2 := (B0.alloc hsz _).grown hgrow2 (by simp; omega) (fun q hq => by have := (hown.lt q hq).1; omega)
          go_roundw
          case rel => exact ⟨k + 1, by omega, by go_num, by rw [hs'.out, List.length_append, lI_snoc]; exact hown2, B2⟩
          case measure => simp [intOf]; omega
        · have g2 : ((k : Int) == ((c : Int) + 1) % (n : Int)) = false := by rw [beq_eq_false_iff_ne]; omega
          have hs' := Lib.hid (show gT zs c (k + 1) = ys ++ [nth xs k] by rw [hs.out, if_neg h1, hv.out, if_neg (by omega)])
          clear h1 h2
          generalize nth xs k = y at *
          have hsz := B0.size
          go_wp2_with (at_builtin; refine wpList_append_own _ rfl _ _ 30 rfl w.heap.size 3 i0 (.int .i64 0) 1 8 Try.underlying30 G0.out G1.out G2.out G3.out rfl (by decide) _ _ _ rfl (hown.alloc _) ⟨_, 0, none⟩ 1 1 [.int .i64 y] rfl rfl (cell_one_new _ _ _) (by simp [Value.oneCell']) (by unfold maxLen; omega) (by omega) (by have := hsz; simp; omega) ?_; intro v2 w2 hown2 hgrow2 _)
          have B2 := (B0.alloc hsz _).grown hgrow2 (by simp; omega) (fun q hq => by have := (hown.lt q hq).1; omega)
          go_roundw
          case rel => exact ⟨k + 1, by omega, by go_num, by rw [hs'.out, List.length_append, lI_snoc]; exact hown2, B2⟩
          case measure => simp [intOf]; omega
    · obtain rfl : k = n := by omega
      rw [← hfin.out] at hown
      obtain ⟨a2, c2, rfl, hc2, hi2⟩ := own_intsA hown rfl
      go_wp2_with fail
      go_ret2
      exact ⟨a2, c2, rfl, hi2, hc2, B0⟩
end Go.Proofs.Ytflbaadfbjpakaa
