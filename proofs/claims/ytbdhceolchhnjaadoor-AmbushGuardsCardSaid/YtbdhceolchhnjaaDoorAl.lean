/- Layer 4, by the program: who wins a turn that the wolves have not won. -/
import Derived.Test.YtbdhceolchhnjaaDoorAk
namespace Go.Proofs.YtbdhceolchhnjaaDoor
open Go Go.RowKit

theorem mvL_mem {l : List Nat} {p : Nat → Bool} (h : l ≠ []) : mvL l p ∈ l ∧ p (mvL l p) = l.any p := by
  unfold mvL
  cases e : l.find? p with
  | none =>
    have hn := List.find?_eq_none.1 e
    have ha : l.any p = false := by rw [List.any_eq_false]; exact fun x hx => by simpa using hn x hx
    cases l with
    | nil => exact absurd rfl h
    | cons a l =>
      have h1 := hn a (by simp)
      refine ⟨by simp, ?_⟩
      rw [ha]
      simpa using h1
  | some x =>
    have h1 := List.find?_some e
    have h2 := List.mem_of_find?_eq_some e
    exact ⟨h2, by rw [List.any_eq_true.2 ⟨x, h2, h1⟩]; exact h1⟩
theorem wB_zero {m : Nat} {R : List Int} {x y i : Nat} (hi : i ∈ frL m x y) : wB m R x y 0 i = win m R (x + pw i) y true := by
  unfold wB wafter tkW tkD
  simp only [if_true]
  rw [or_eq_add (frL_mem.1 hi).2.1]
  show (sd (win m R (x + pw i) y true) == 0) = _
  cases win m R (x + pw i) y true <;> rfl
theorem wB_one {m : Nat} {R : List Int} {x y i : Nat} (hi : i ∈ frL m x y) : wB m R x y 1 i = !(win m R x (y + pw i) false) := by
  unfold wB wafter tkW tkD
  rw [if_neg (by omega), if_neg (by omega), or_eq_add (frL_mem.1 hi).2.2]
  show (sd (win m R x (y + pw i) false) == 1) = _
  cases win m R x (y + pw i) false <;> rfl
theorem any_wB {m : Nat} {R : List Int} {x y s : Nat} (hs : s < 2) (hw : hasOne R x = false) (hl : frL m x y ≠ []) : (frL m x y).any (wB m R x y s) = (sd (win m R x y (s == 1)) == s) := by
  obtain rfl | rfl : s = 0 ∨ s = 1 := by omega
  · rw [any_congr fun i hi => wB_zero hi]
    have := win_w (m := m) (L := R) (w := x) (d := y) hw
    show _ = (sd (win m R x y false) == 0)
    cases h : win m R x y false
    · show _ = false
      rw [List.any_eq_false]
      intro i hi hh
      rw [this.2 ⟨i, hi, hh⟩] at h; cases h
    · obtain ⟨i, hi, hh⟩ := this.1 h
      exact List.any_eq_true.2 ⟨i, hi, hh⟩
  · rw [any_congr fun i hi => wB_one hi]
    have := win_d (m := m) (L := R) (w := x) (d := y) hw hl
    show _ = (sd (win m R x y true) == 1)
    cases h : win m R x y true
    · show _ = true
      rw [List.any_eq_true]
      apply Classical.byContradiction
      intro hno
      have h2 : win m R x y true = true := this.2 fun i hi => by
        cases hh : win m R x (y + pw i) false
        · exact absurd ⟨i, hi, by rw [hh]; rfl⟩ hno
        · rfl
      rw [h] at h2; cases h2
    · show _ = false
      rw [List.any_eq_false]
      intro i hi
      rw [this.1 h i hi]; simp
theorem dec_eq {m : Nat} {R : List Int} {x y s : Nat} (hs : s < 2) (hw : hasOne R x = false) (hl : frL m x y ≠ []) :
    (if wB m R x y s (mvL (frL m x y) (wB m R x y s)) then s else 1 - s) = sd (win m R x y (s == 1)) := by
  rw [(mvL_mem (p := wB m R x y s) hl).2, any_wB hs hw hl]
  have : sd (win m R x y (s == 1)) < 2 := by unfold sd; split <;> omega
  by_cases e : sd (win m R x y (s == 1)) = s
  · rw [if_pos (by rw [e]; simp)]; exact e.symm
  · rw [if_neg (by simpa using e)]; omega
set_option maxRecDepth 100000 in
set_option maxHeartbeats 2000000 in
theorem decide_any (m : Nat) (a : Option Addr) (n c : Nat) (R : List Int) (B x y s : Nat) (w0 w : World) (hF : FieldP m R) (hst : StG m a R B w0 w) (hp : PosP m x y) (hs : s < 2) (hw : hasOne R x = false)
    (W : ∀ i ∈ frL m x y, ∀ w', Keep B w w' → KM m R B w' → Calls Tryd.prog 77 #[gV m a n c B, tV x y s, .int .i64 (i : Nat)] w' (RetK m R B (.bool (wB m R x y s i)) w')) :
    Calls Tryd.prog 71 #[gV m a n c B, tV x y s] w (RetK m R B (.int .i64 (sd (win m R x y (s == 1)) : Nat)) w) := by
  have hlt := hst.km.lt
  have hx : x < 65536 := by have := hp.hw; have := pw_mono hF.le; have h4 : pw 9 = 512 := rfl; omega
  have hy : y < 65536 := by have := hp.hd; have := pw_mono hF.le; have h4 : pw 9 = 512 := rfl; omega
  have hA := (Blk.new w 70 #[.int .i64 (m : Nat), .slice a n c, .map (some B)]).alloc (.cells #[.int .i64 (x : Nat), .int .i64 (y : Nat), .int .i64 (s : Nat)] 65)
  have hT : Blk ((w.alloc (.cells #[.int .i64 (m : Nat), .slice a n c, .map (some B)] 70)).alloc (.cells #[.int .i64 (x : Nat), .int .i64 (y : Nat), .int .i64 (s : Nat)] 65)) (w.heap.size + 1) 65 #[.int .i64 (x : Nat), .int .i64 (y : Nat), .int .i64 (s : Nat)] := by
    have := Blk.new (w.alloc (.cells #[.int .i64 (m : Nat), .slice a n c, .map (some B)] 70)) 65 #[.int .i64 (x : Nat), .int .i64 (y : Nat), .int .i64 (s : Nat)]
    simpa using this
  have hb := b2 w (.cells #[.int .i64 (m : Nat), .slice a n c, .map (some B)] 70) (.cells #[.int .i64 (x : Nat), .int .i64 (y : Nat), .int .i64 (s : Nat)] 65)
  have F := Lib.hid (fun W hW => freeSpots_any m a n c x y W hF.le hx hy hW)
  have hl9 := frL_len m x y
  have hm9 := hF.le
  have hTab := Lib.hid (hst.tab.next hst.below)
  have hsz : Hid (w.heap.size ≤ ((w.alloc (.cells #[.int .i64 (m : Nat), .slice a n c, .map (some B)] 70)).alloc (.cells #[.int .i64 (x : Nat), .int .i64 (y : Nat), .int .i64 (s : Nat)] 65)).heap.size) := Lib.hid hb.size
  have hk := Lib.hid hst.km
  have O := Lib.hid (fun W => sideOther_any s hs W)
  have hTabN := Lib.hid (hTab.out.next hb)
  clear hst
  replace W := Lib.hid W
  by_cases h0 : frL m x y = []
  · have hr : Hid (sd (win m R x y (s == 1)) = 1) := Lib.hid (by rw [win_full _ h0, hw]; rfl)
    rw [hr.out]
    rw [h0] at F
    have hb := Lib.hid hb
    have hAh := Lib.hid hA
    have hTh := Lib.hid hT
    obtain ⟨x0, x1, x2⟩ := hA.c3
    obtain ⟨y0, y1, y2⟩ := hT.c3
    clear hA hT
    go_enter Tryd.func71, Tryd.ntmps71
    go_wp2_with (go_at_call 47; refine (F.out _ hTabN.out).mono ?_; rintro e w2 ⟨v, rfl, hown, hb2⟩; obtain ⟨va, vc, rfl, hvc, hI⟩ := own_intsA hown rfl; replace hown := Lib.hid hown; replace hI := Lib.hid hI)
    go_ret
    have hb3 := nextB hb.out hb2
    exact ⟨rfl, Keep.of hb3, hk.out.next hb3⟩
  · have hde := Lib.hid (dec_eq (m := m) (R := R) hs hw h0)
    have hmem := (mvL_mem (p := wB m R x y s) h0).1
    have hlen0 : 0 < (frL m x y).length := List.length_pos_iff.2 h0
    obtain ⟨r, hr⟩ : ∃ r, Hid (sd (win m R x y (s == 1)) = r) := ⟨_, Lib.hid rfl⟩
    have hde2 := Lib.hid (hde.out.trans hr.out)
    rw [hr.out]
    clear hde hw hr
    have hb := Lib.hid hb
    have hAh := Lib.hid hA
    have hTh := Lib.hid hT
    obtain ⟨x0, x1, x2⟩ := hA.c3
    obtain ⟨y0, y1, y2⟩ := hT.c3
    clear hA hT
    obtain ⟨l, hl⟩ : ∃ l, Hid (frL m x y = l) := ⟨_, Lib.hid rfl⟩
    rw [hl.out] at F hl9 W hmem hlen0 hde2
    have hll := lNi_len l
    go_enter Tryd.func71, Tryd.ntmps71
    go_wp2_with (go_at_call 47; refine (F.out _ hTabN.out).mono ?_; rintro e w2 ⟨v, rfl, hown, hb2⟩; obtain ⟨va, vc, rfl, hvc, hI⟩ := IntsK.of_own hown (show B < _ by have := hsz.out; omega); replace hown := Lib.hid hown; replace hI := Lib.hid hI; rw [hll] at hvc)
    have hl0 : ((l.length : Int) == 0) = false := by rw [beq_eq_false_iff_ne]; omega
    have hbw := nextB hb.out hb2
    have hk2 := hk.out.next hbw
    have K1 := Lib.hid (fun z : ExtK m R B w2 => callK (moveA_any m a n c R B x y s l.length vc va l z.world z.km rfl (by omega) hlen0 (hI.out.keep z.keep) (fun i hi w' h1 h2 => W.out i hi w' ((Keep.of hbw).trans (z.keep.trans h1)) h2)))
    have K2 := Lib.hid (fun z : ExtK m R B w2 => callK (W.out _ hmem z.world ((Keep.of hbw).trans z.keep) z.km))
    replace x0 := cellXK (m := m) (R := R) (B := B) (by omega) (cellB hb2 x0)
    replace x1 := cellXK (m := m) (R := R) (B := B) (by omega) (cellB hb2 x1)
    replace x2 := cellXK (m := m) (R := R) (B := B) (by omega) (cellB hb2 x2)
    replace y0 := cellXK (m := m) (R := R) (B := B) (by omega) (cellB hb2 y0)
    replace y1 := cellXK (m := m) (R := R) (B := B) (by omega) (cellB hb2 y1)
    replace y2 := cellXK (m := m) (R := R) (B := B) (by omega) (cellB hb2 y2)
    have hbw' := Lib.hid hbw
    clear hbw hb2
    generalize mvL l (wB m R x y s) = v at *
    obtain ⟨wv, hwv⟩ : ∃ wv, Hid (wB m R x y s v = wv) := ⟨_, Lib.hid rfl⟩
    rw [hwv.out] at K2 hde2
    refine wp_region_extK hk2 (by kernel_rfl) (by kernel_rfl) ?_
    repeat (go_big_quiet_step (first | exact rfl | with_reducible exact K1.out _ | with_reducible exact K2.out _))
    refine wpQuiet_nil ?_
    rintro z3
    have y2' := y2 z3
    obtain ⟨w3, hw3, hk3⟩ := z3
    dsimp only at y2' ⊢
    clear x0 x1 x2 y0 y1 y2 K1 K2
    replace hk3 := Lib.hid hk3
    replace hw3 := Lib.hid hw3
    cases wv
    · have hr1 : Hid (1 - s = r) := Lib.hid (by simpa using hde2.out)
      rw [hr1.out] at O
      go_wp2_with (go_at_call 92; refine (O.out _).mono ?_; rintro e w4 ⟨rfl, rfl⟩)
      go_ret
      exact ⟨rfl, (Keep.of hbw'.out).trans hw3.out, hk3.out⟩
    · have hr1 : Hid (s = r) := Lib.hid (by simpa using hde2.out)
      rw [hr1.out] at y2'
      go_wp2
      go_ret
      exact ⟨rfl, (Keep.of hbw'.out).trans hw3.out, hk3.out⟩
theorem ownsMap_next {w w' : World} {B n : Nat} {D : DataW Unit} {k : TypeId} {e : Value → Option (DataW Unit × List MemPlace)} (h : w.ownsMap Tryd.prog k e B n D) (hb : Below w.heap.size w w') : w'.ownsMap Tryd.prog k e B n D := by
  have hlt := h.lt
  obtain ⟨es, clock, hh, F, hs, e⟩ := h
  exact ⟨es, clock, (hb.block B hlt).trans hh, F, hs, e⟩
theorem zeroSide : ∀ w, (zeroValue 63).run Tryd.prog w = .ok (.int .i64 0) w := fun _ => by kernel_rfl
set_option maxRecDepth 100000 in
set_option maxHeartbeats 2000000 in
theorem winner_step (m : Nat) (a : Option Addr) (n c : Nat) (R : List Int) (B x y s : Nat) (w0 w : World) (hF : FieldP m R) (hn : R.length = n) (hst : StG m a R B w0 w) (hp : PosP m x y) (hs : s < 2)
    (D : hasOne R x = false → ∀ w', Keep B w w' → KM m R B w' → Calls Tryd.prog 71 #[gV m a n c B, tV x y s] w' (RetK m R B (.int .i64 (sd (win m R x y (s == 1)) : Nat)) w')) :
    Calls Tryd.prog 42 #[gV m a n c B, tV x y s] w (RetK m R B (.int .i64 (sd (win m R x y (s == 1)) : Nat)) w) := by
  have hlt := hst.km.lt
  have hx9 : x < 512 := by have := hp.hw; have := pw_mono hF.le; have h4 : pw 9 = 512 := rfl; omega
  have hy9 : y < 512 := by have := hp.hd; have := pw_mono hF.le; have h4 : pw 9 = 512 := rfl; omega
  have hA := (Blk.new w 70 #[.int .i64 (m : Nat), .slice a n c, .map (some B)]).alloc (.cells #[.int .i64 (x : Nat), .int .i64 (y : Nat), .int .i64 (s : Nat)] 65)
  have hT : Blk ((w.alloc (.cells #[.int .i64 (m : Nat), .slice a n c, .map (some B)] 70)).alloc (.cells #[.int .i64 (x : Nat), .int .i64 (y : Nat), .int .i64 (s : Nat)] 65)) (w.heap.size + 1) 65 #[.int .i64 (x : Nat), .int .i64 (y : Nat), .int .i64 (s : Nat)] := by
    have := Blk.new (w.alloc (.cells #[.int .i64 (m : Nat), .slice a n c, .map (some B)] 70)) 65 #[.int .i64 (x : Nat), .int .i64 (y : Nat), .int .i64 (s : Nat)]
    simpa using this
  have hb := b2 w (.cells #[.int .i64 (m : Nat), .slice a n c, .map (some B)] 70) (.cells #[.int .i64 (x : Nat), .int .i64 (y : Nat), .int .i64 (s : Nat)] 65)
  have hst1 := hst.next hb
  have H := Lib.hid (fun W hW => won_any m a n c R x y W hW hn (by have := hF.few; omega) (by omega) hF.sets)
  have hI1 := Lib.hid (hst1.ints.next hst1.below)
  have hk1 := hst1.km
  replace D := Lib.hid D
  clear hst hst1 hn
  obtain ⟨x0, x1, x2⟩ := hA.c3
  obtain ⟨y0, y1, y2⟩ := hT.c3
  clear hA hT
  have hbh := Lib.hid hb
  cases hw : hasOne R x
  case true =>
    have hr : sd (win m R x y (s == 1)) = 0 := by rw [win_has _ _ hw]; rfl
    rw [hr]
    rw [hw] at H
    have hkh := Lib.hid hk1
    clear hk1 hr hb
    go_enter Tryd.func42, Tryd.ntmps42
    go_wp2_with (go_at_call 48; refine (H.out _ hI1.out).mono ?_; rintro e w2 ⟨rfl, hb2⟩)
    go_ret
    exact ⟨rfl, Keep.of (nextB hbh.out hb2), hkh.out.next hb2⟩
  case false =>
    rw [hw] at H
    have hDec := Lib.hid (D.out hw)
    clear D
    obtain ⟨T, hT1, hT2, hT3⟩ := hk1
    have hT3' := hT3 x y s hx9 hy9 hs
    obtain ⟨r, hr⟩ : ∃ r, Hid (sd (win m R x y (s == 1)) = r) := ⟨_, Lib.hid rfl⟩
    rw [hr.out] at hDec hT3' ⊢
    have hkh : Hid (KM m R B _) := Lib.hid ⟨T, hT1, hT2, hT3⟩
    replace hT1 := Lib.hid hT1
    replace hT2 := Lib.hid hT2
    replace hT3 := Lib.hid hT3
    clear hb
    cases hh : Maps.has T (tk x y s)
    case true =>
      have hT4 := Lib.hid (hT3' hh)
      clear hT3'
      go_enter Tryd.func42, Tryd.ntmps42
      go_wp2_with (first
        | (go_at_call 48; refine (H.out _ hI1.out).mono ?_; rintro e w2 ⟨rfl, hb2⟩; replace x2 := cellB hb2 x2; replace y0 := cellB hb2 y0; replace y1 := cellB hb2 y1; replace y2 := cellB hb2 y2; have hT5 := Lib.hid (ownsMap_next hT1.out hb2))
        | (at_lookup; refine wpList_lookup_own_ok_int _ rfl _ _ 68 rfl 65 63 .i64 lawTn Tryd.underlying68 Tryd.underlying63 (zeroSide _) B 524288 T rfl hT5.out _ (tk x y s) rfl (keyOf_tn (by omega) (by omega) (by omega)) ?_; intro cc hat hwc; rw [hT4.out] at hat; simp only [DataW.lit.injEq, Lit.int.injEq, true_and] at hat; subst hat; rw [hh]))
      go_ret
      exact ⟨rfl, Keep.of (nextB hbh.out hb2), hkh.out.next hb2⟩
    case false =>
      clear hT3'
      have hvw : plainElem (H := Unit) Tryd.prog 63 (.int .i64 (r : Nat)) = some (.lit (.int .i64 (r : Nat)), []) := plainElem_int Tryd.underlying63 (WalkArith.wf_i64 (by have : r ≤ 1 := (by rw [← hr.out]; unfold sd; split <;> omega); omega))
      replace hvw := Lib.hid hvw
      go_enter Tryd.func42, Tryd.ntmps42
      go_wp2_with (first
        | (go_at_call 48; refine (H.out _ hI1.out).mono ?_; rintro e w2 ⟨rfl, hb2⟩; replace x0 := cellB hb2 x0; replace x1 := cellB hb2 x1; replace x2 := cellB hb2 x2; replace y0 := cellB hb2 y0; replace y1 := cellB hb2 y1; replace y2 := cellB hb2 y2; have hT5 := Lib.hid (ownsMap_next hT1.out hb2))
        | (at_lookup; refine wpList_lookup_own_ok_int _ rfl _ _ 68 rfl 65 63 .i64 lawTn Tryd.underlying68 Tryd.underlying63 (zeroSide _) B 524288 T rfl hT5.out _ (tk x y s) rfl (keyOf_tn (by omega) (by omega) (by omega)) ?_; intro cc hat hwc; rw [hh]; clear hat hwc)
        | (go_at_call 71; refine (hDec.out _ (Keep.of (nextB hbh.out hb2)) (hkh.out.next hb2)).mono ?_; rintro e w3 ⟨rfl, hk3, hm3⟩; replace x2 := hk3.cell (p := ⟨w.heap.size, 2, none⟩) (by show w.heap.size ≠ B; omega) x2; replace y0 := hk3.cell (p := ⟨w.heap.size + 1, 0, none⟩) (by show w.heap.size + 1 ≠ B; omega) y0; replace y1 := hk3.cell (p := ⟨w.heap.size + 1, 1, none⟩) (by show w.heap.size + 1 ≠ B; omega) y1; replace y2 := hk3.cell (p := ⟨w.heap.size + 1, 2, none⟩) (by show w.heap.size + 1 ≠ B; omega) y2; clear x0 x1; replace hk3 := Lib.hid hk3; obtain ⟨U, hU1, hU2, hU3⟩ := hm3; replace hU1 := Lib.hid hU1; replace hU2 := Lib.hid hU2; replace hU3 := Lib.hid hU3)
        | (at_mapUpdate; refine wpList_mapUpdate_own _ rfl _ _ _ 68 rfl 65 63 lawTn Tryd.underlying68 _ B 524288 U rfl hU1.out (by unfold maxLen; omega) _ _ (tk x y s) rfl rfl (keyOf_tn (by omega) (by omega) (by omega)) _ [] hvw.out ?_; intro w4 hown4 hgrow4))
      go_ret
      exact ⟨rfl, (Keep.of (nextB hbh.out hb2)).trans (hk3.out.trans (Keep.grown hgrow4)), KM.put hown4 hU2.out hU3.out hx9 hy9 hs rfl (by rw [hr.out])⟩
end Go.Proofs.YtbdhceolchhnjaaDoor
