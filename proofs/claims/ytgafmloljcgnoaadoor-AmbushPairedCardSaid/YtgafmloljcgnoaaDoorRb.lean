/- Layer 4: AmbushMoves returns true, and changes nothing. -/
import Derived.Test.YtgafmloljcgnoaaDoorRa
import Derived.Test.YtgafmloljcgnoaaDoorQc
namespace Go.Proofs.YtgafmloljcgnoaaDoor
open Go Go.RowKit

theorem mvL_le {l : List Nat} {p : Nat → Bool} (hl : l.Pairwise (· < ·)) {t : Nat} (ht : t ∈ l) (hp : p t = true) : mvL l p ≤ t := by
  unfold mvL
  induction l with
  | nil => cases ht
  | cons a l ih =>
    rw [List.pairwise_cons] at hl
    by_cases e : p a = true
    · rw [List.find?_cons_of_pos e]
      show a ≤ t
      rcases List.mem_cons.1 ht with rfl | h
      · exact Nat.le_refl _
      · exact Nat.le_of_lt (hl.1 t h)
    · rw [List.find?_cons_of_neg e]
      rcases List.mem_cons.1 ht with rfl | h
      · exact absurd hp e
      · have h2 := ih hl.2 h
        have h3 : (l.find? p).isSome := List.find?_isSome.2 ⟨t, h, hp⟩
        obtain ⟨y, hy⟩ := Option.isSome_iff_exists.1 h3
        rw [hy] at h2 ⊢
        exact h2
theorem frL_pair (m w d : Nat) : (frL m w d).Pairwise (· < ·) := List.Pairwise.filter _ List.pairwise_lt_range
/-- Who wins after a spot is taken. -/
def aftB (m : Nat) (R : List Int) (u v sn i : Nat) : Bool := win m R (tkW u sn i) (tkD v sn i) (1 - sn == 1)
theorem moves_fact {m : Nat} {R : List Int} {u v sn : Nat} (hs : sn < 2) (hw : hasOne R u = false) (hl : frL m u v ≠ []) :
    mvL (frL m u v) (wB m R u v sn) ∈ frL m u v ∧ (sd (win m R u v (sn == 1)) == sn) = (sd (aftB m R u v sn (mvL (frL m u v) (wB m R u v sn))) == sn) ∧
    ∀ t ∈ frL m u v, (sd (aftB m R u v sn t) == sn) = true → (sd (win m R u v (sn == 1)) == sn) = true ∧ mvL (frL m u v) (wB m R u v sn) ≤ t := by
  obtain ⟨h1, h2⟩ := mvL_mem (p := wB m R u v sn) hl
  have h3 := any_wB (m := m) (R := R) (x := u) (y := v) hs hw hl
  refine ⟨h1, h3.symm.trans h2.symm, fun t ht hb => ⟨?_, mvL_le (frL_pair _ _ _) ht hb⟩⟩
  rw [← h3]
  exact List.any_eq_true.2 ⟨t, ht, hb⟩
/-- The spots after one is taken in the text. -/
theorem setS_W {s : ByteArray} {m k : Nat} (hs : s.size = m) (hk : k < m) (hd : bytA s k = 46) : psB (setS s k 119) 119 m = tkW (psB s 119 m) 0 k ∧ psB (setS s k 119) 100 m = tkD (psB s 100 m) 0 k := by
  constructor
  · apply Nat.eq_of_testBit_eq
    intro i
    rw [setS_psB hs hk (by omega)]
    unfold tkW
    rw [if_pos rfl, Nat.testBit_or, psB_test, pw, Nat.testBit_two_pow]
    by_cases e : i = k
    · subst e; simp [hk]
    · have e2 : ¬ k = i := fun h => e h.symm
      simp [e, e2]
  · apply Nat.eq_of_testBit_eq
    intro i
    rw [setS_psB hs hk (by omega)]
    unfold tkD
    rw [if_pos rfl, psB_test]
    by_cases e : i = k
    · subst e; simp [hd]
    · have e2 : ¬ k = i := fun h => e h.symm
      simp [e, e2]
theorem setS_D {s : ByteArray} {m k : Nat} (hs : s.size = m) (hk : k < m) (hd : bytA s k = 46) : psB (setS s k 100) 119 m = tkW (psB s 119 m) 1 k ∧ psB (setS s k 100) 100 m = tkD (psB s 100 m) 1 k := by
  constructor
  · apply Nat.eq_of_testBit_eq
    intro i
    rw [setS_psB hs hk (by omega)]
    unfold tkW
    rw [if_neg (show ¬ ((1 : Nat) = 0) by omega), psB_test]
    by_cases e : i = k
    · subst e; simp [hd]
    · have e2 : ¬ k = i := fun h => e h.symm
      simp [e, e2]
  · apply Nat.eq_of_testBit_eq
    intro i
    rw [setS_psB hs hk (by omega)]
    unfold tkD
    rw [if_neg (show ¬ ((1 : Nat) = 0) by omega), Nat.testBit_or, psB_test, pw, Nat.testBit_two_pow]
    by_cases e : i = k
    · subst e; simp [hk]
    · have e2 : ¬ k = i := fun h => e h.symm
      simp [e, e2]
theorem mvE_pos {m : Nat} {R : List Int} {s t : ByteArray} (h : tE (m : Int) R s t = 0) : mvE (m : Int) R s t = if frL m (psB s 119 m) (psB s 100 m) = [] ∨ hasOne R (psB s 119 m) = true then 9 else 0 := by
  unfold mvE
  rw [if_pos h]; rfl
set_option maxRecDepth 100000 in
set_option maxHeartbeats 4000000 in
theorem moves_any (x : Int) (a : Option Addr) (n c : Nat) (R : List Int) (s : ByteArray) (wolves : Bool) (sp : Nat) (w : World) (h : Ints w a R) (hn : R.length = n) (_hnc : n ≤ c) (_hnil : a = none → c = 0) (hsp : sp ≤ 255) (hT : Tab w) :
    Calls Tryd.prog 10 #[.int .i64 x, .slice a n c, .string s, .bool wolves, .int .u8 (sp : Nat)] w (Ret (.bool true) w) := by
  have hAl := Lib.hid (fun W hW => alive_any W hW)
  have hFw := Lib.hid (fun W => few_any n c a s strE W)
  replace hT := Lib.hid hT
  cases hf : decide (n ≤ 40) && decide (s.size ≤ 40)
  · have hf2 : (decide (n ≤ 40) && decide (s.size ≤ 40) && decide (strE.size ≤ 40)) = false := by rw [hf]; rfl
    rw [hf2] at hFw
    clear hn
    go_enter Tryd.func10, Tryd.ntmps10
    go_wp2_with (first
      | (go_at_call 15; refine (hFw.out _).mono ?_; rintro e w1 ⟨rfl, rfl⟩)
      | (go_at_call 16; refine (hAl.out _ hT.out).mono ?_; rintro e w1 ⟨rfl, hb1⟩))
    go_ret
    exact Ret.mk rfl hb1
  · have hf2 : (decide (n ≤ 40) && decide (s.size ≤ 40) && decide (strE.size ≤ 40)) = true := by rw [hf]; rfl
    rw [hf2] at hFw
    have PL := Lib.hid (fun W hW => refPlaced_any x a n c R s W hW hn)
    have hI := Lib.hid h
    have hn' := Lib.hid hn
    obtain ⟨e, he⟩ : ∃ e, Hid (pE x R s = e) := ⟨_, Lib.hid rfl⟩
    have he6 : e < 6 := by rw [← he.out]; exact pE_lt x R s
    rw [he.out] at PL
    clear hf hf2 h hn
    by_cases h1 : e = 0
    · subst h1
      obtain ⟨hx, hF, hs, hok⟩ := pE_ok he.out
      obtain ⟨m, hm⟩ : ∃ m, x.toNat = m := ⟨_, rfl⟩
      rw [hm] at hx hF hs
      subst hx
      have hm1 := hF.pos
      have hm9 := hF.le
      have hrem : (sp : Int).tmod (m : Int) = ((sp % m : Nat) : Int) := by rw [Int.tmod_eq_emod_of_nonneg (by omega)]; exact (Int.natCast_emod _ _).symm
      have hcv : IntKind.i64.wrap (sp : Int) = (sp : Int) := IntWalk.i64_in _ (by omega)
      have hmz : ((m : Int) == 0) = false := by rw [beq_eq_false_iff_ne]; omega
      have htm : sp % m < m := Nat.mod_lt _ (by omega)
      generalize sp % m = t at *
      simp only [if_true] at PL
      have P0 := pE_pos hF hs hok
      cases wolves
      · have tn := tE_pos P0 isSide_D
        have C0 := fun W hW hTW => Winner_any (m : Int) a n c R s strD W hW hn'.out hTW
        have M0 := fun W hW hTW => Move_any (m : Int) a n c R s strD W hW hn'.out hTW
        rw [winS_pos tn, tn] at C0
        have hme := mvE_pos tn
        have hsN : sideN strD = 1 := by unfold sideN; rw [strW_list, strD_list]; rfl
        have hmi : mvE (m : Int) R s strD = 0 → mvI (m : Int) R s strD = mvL (frL m (psB s 119 m) (psB s 100 m)) (wB m R (psB s 119 m) (psB s 100 m) 1) := fun h => by
          unfold mvI
          rw [if_pos h, hsN]; rfl
        have hmn : mvE (m : Int) R s strD ≠ 0 → mvI (m : Int) R s strD = 0 := fun h => by
          unfold mvI
          rw [if_neg h]
        have CA : ∀ i, i < m → bytA s i = 46 → winS (m : Int) R (setS s i 100) strW = ltr (sd (aftB m R (psB s 119 m) (psB s 100 m) 1 i)) ∧ tE (m : Int) R (setS s i 100) strW = 0 := fun i hi hd => by
          have t1 := tE_pos (s := setS s i 100) (setS_ok (b := 100) hF hs hok hi (by omega)).1 isSide_W
          refine ⟨?_, t1⟩
          rw [winS_pos t1, (setS_D hs hi hd).1, (setS_D hs hi hd).2, sideN_W]
          rfl
        have CC := fun i (hi : i < m) (hd : bytA s i = 46) W hW hTW => (CA i hi hd).1 ▸ (CA i hi hd).2 ▸ Winner_any (m : Int) a n c R (setS s i 100) strW W hW hn'.out hTW
        have PC := fun i (hi : i < m) W => (show Calls Tryd.prog 40 #[.string s, .int .i64 (i : Nat), .int .u8 100] W (Ret (.string (setS s i 100)) W) from placed_any s i 100 (by omega) (by omega) W)
        rw [sideN_D] at C0
        have MF := moves_fact (m := m) (R := R) (u := psB s 119 m) (v := psB s 100 m) (sn := 1) (by omega)
        have FD : ∀ i, i ∈ frL m (psB s 119 m) (psB s 100 m) ↔ i < m ∧ bytA s i = 46 := fun i => free_dot hs hok
        unfold strD at C0 M0
        unfold strW at CC
        clear CA tn P0 hsN
        obtain ⟨q, hq⟩ : ∃ q, mvE (m : Int) R s strD = q := ⟨_, rfl⟩
        obtain ⟨k, hk⟩ : ∃ k, mvI (m : Int) R s strD = k := ⟨_, rfl⟩
        have M0' := fun W hW hTW => hk ▸ hq ▸ M0 W hW hTW
        rw [hq] at hme hmi hmn
        rw [hk] at hmi hmn
        clear M0 hq hk
        generalize psB s 119 (m : Int).toNat = u0 at *
        generalize psB s 100 (m : Int).toNat = v0 at *
        generalize psB s 119 m = u at *
        generalize psB s 100 m = v at *
        generalize hA : win m R u v (1 == 1) = A at *
        have hA2 : win m R u v true = A := hA
        rw [hA2] at C0
        clear hA hA2
        replace hF := Lib.hid hF
        replace hok := Lib.hid hok
        clear hm
        by_cases h0 : frL m u v = [] ∨ hasOne R u = true
        · rw [if_pos h0] at hme
          subst hme
          obtain rfl := hmn (by omega)
          have MV := Lib.hid M0'
          have la := ltr_list A
          generalize ltr (sd A) = La at *
          have K1 := Lib.hid C0
          replace PL := PL
          clear MF CC PC C0 M0' FD hmi hmn
          replace h0 := Lib.hid h0
          go_enter Tryd.func10, Tryd.ntmps10
          go_wp2_with (first
            | (go_at_call 15; refine (hFw.out _).mono ?_; rintro e w1 ⟨rfl, rfl⟩)
            | (go_at_call 44; refine (PL.out _ hI.out).mono ?_; rintro e w2 ⟨rfl, hb2⟩)
            | (go_at_call 17; refine (K1.out _ (hI.out.next hb2) (hT.out.next hb2)).mono ?_; rintro e w4 ⟨rfl, hb4⟩; replace hb2 := nextB hb2 hb4)
            | (go_at_call 19; refine (MV.out _ (hI.out.next hb2) (hT.out.next hb2)).mono ?_; rintro e w5 ⟨rfl, hb5⟩; replace hb2 := nextB hb2 hb5)
            | (go_at_call 16; refine (hAl.out _ (hT.out.next hb2)).mono ?_; rintro e w6 ⟨rfl, hb6⟩))
          go_ret
          exact Ret.mk rfl (nextB hb2 hb6)
        · rw [if_neg h0] at hme
          subst hme
          obtain hk := hmi rfl
          have h01 : hasOne R u = false := by cases hh : hasOne R u; rfl; exact absurd (.inr hh) h0
          obtain ⟨g1, g2, g3⟩ := MF h01 (fun h => h0 (.inl h))
          rw [← hk] at g1 g2 g3
          obtain ⟨hkm, hkd⟩ := (FD k).1 g1
          have hks : k < s.size := by omega
          have hts : t < s.size := by omega
          have hbk : (s[k]'hks).toNat = 46 := by unfold bytA at hkd; rw [dif_pos hks] at hkd; exact hkd
          have hbt : bytA s t = (s[t]'hts).toNat := by unfold bytA; rw [dif_pos hts]
          have K1 := Lib.hid C0
          have K2 := Lib.hid (CC k hkm hkd)
          have PC1 := Lib.hid (PC k hkm)
          have PC2 := Lib.hid (PC t htm)
          have MV := Lib.hid M0'
          have hkI : (k : Int) < (m : Int) := by omega
          have hk00 : ¬ ((k : Int) < 0) := by omega
          have hk01 : ¬ ((m : Int) ≤ (k : Int)) := by omega
          have htI : (t : Int) < (m : Int) := by omega
          generalize hB : aftB m R u v 1 k = B at *
          clear hmi hmn hkd hB
          by_cases c1 : (s[t]'hts).toNat = 46
          · have htd : bytA s t = 46 := hbt.trans c1
            have K3 := Lib.hid (CC t htm htd)
            have g4 := g3 t ((FD t).2 ⟨htm, htd⟩)
            generalize hC : aftB m R u v 1 t = C at *
            clear CC PC C0 M0' FD g1 g3 MF htd hbt hC
            replace h0 := Lib.hid h0
            replace h01 := Lib.hid h01
            replace hk := Lib.hid hk
            cases A <;> cases B <;> cases C
            all_goals first
              | (exfalso; revert g2; decide)
              | (exfalso; revert g4; intro g4; exact absurd (g4 rfl).1 (by decide))
              | skip
            all_goals
              try have hkt : (k : Int) ≤ (t : Int) := by have := (g4 rfl).2; omega
              clear g2 g4
              have la := ltr_list false
              have lb := ltr_list true
              simp only [Bool.false_eq_true, if_false, if_true] at la lb
              generalize ltr (sd false) = La at *
              generalize ltr (sd true) = Lb at *
              generalize setS s k 100 = S1 at *
              generalize setS s t 100 = S2 at *
              go_enter Tryd.func10, Tryd.ntmps10
              go_wp2_with (first
                | (go_at_call 15; refine (hFw.out _).mono ?_; rintro e w1 ⟨rfl, rfl⟩)
                | (go_at_call 44; refine (PL.out _ hI.out).mono ?_; rintro e w2 ⟨rfl, hb2⟩)
                | (go_at_call 40; (with_reducible refine (PC1.out _).mono ?_); rintro e w3 ⟨rfl, hb3⟩; replace hb2 := nextB hb2 hb3)
                | (go_at_call 40; (with_reducible refine (PC2.out _).mono ?_); rintro e w3 ⟨rfl, hb3⟩; replace hb2 := nextB hb2 hb3)
                | (go_at_call 17; (with_reducible refine (K1.out _ (hI.out.next hb2) (hT.out.next hb2)).mono ?_); rintro e w4 ⟨rfl, hb4⟩; replace hb2 := nextB hb2 hb4)
                | (go_at_call 17; (with_reducible refine (K2.out _ (hI.out.next hb2) (hT.out.next hb2)).mono ?_); rintro e w4 ⟨rfl, hb4⟩; replace hb2 := nextB hb2 hb4)
                | (go_at_call 17; (with_reducible refine (K3.out _ (hI.out.next hb2) (hT.out.next hb2)).mono ?_); rintro e w4 ⟨rfl, hb4⟩; replace hb2 := nextB hb2 hb4)
                | (go_at_call 19; refine (MV.out _ (hI.out.next hb2) (hT.out.next hb2)).mono ?_; rintro e w5 ⟨rfl, hb5⟩; replace hb2 := nextB hb2 hb5)
                | (go_at_call 16; refine (hAl.out _ (hT.out.next hb2)).mono ?_; rintro e w6 ⟨rfl, hb6⟩))
              go_ret
              exact Ret.mk rfl (nextB hb2 hb6)
          · have ct : (((s[t]'hts).toNat : Int) != 46) = true := by rw [bne_iff_ne]; omega
            have ct2 : (((s[t]'hts).toNat : Int) == 46) = false := by rw [beq_eq_false_iff_ne]; omega
            clear CC PC C0 M0' FD g1 g3 MF hbt c1
            replace h0 := Lib.hid h0
            replace h01 := Lib.hid h01
            replace hk := Lib.hid hk
            cases A <;> cases B
            all_goals first
              | (exfalso; revert g2; decide)
              | skip
            all_goals
              clear g2
              have la := ltr_list false
              have lb := ltr_list true
              simp only [Bool.false_eq_true, if_false, if_true] at la lb
              generalize ltr (sd false) = La at *
              generalize ltr (sd true) = Lb at *
              generalize setS s k 100 = S1 at *
              go_enter Tryd.func10, Tryd.ntmps10
              go_wp2_with (first
                | (go_at_call 15; refine (hFw.out _).mono ?_; rintro e w1 ⟨rfl, rfl⟩)
                | (go_at_call 44; refine (PL.out _ hI.out).mono ?_; rintro e w2 ⟨rfl, hb2⟩)
                | (go_at_call 40; (with_reducible refine (PC1.out _).mono ?_); rintro e w3 ⟨rfl, hb3⟩; replace hb2 := nextB hb2 hb3)
                | (go_at_call 17; (with_reducible refine (K1.out _ (hI.out.next hb2) (hT.out.next hb2)).mono ?_); rintro e w4 ⟨rfl, hb4⟩; replace hb2 := nextB hb2 hb4)
                | (go_at_call 17; (with_reducible refine (K2.out _ (hI.out.next hb2) (hT.out.next hb2)).mono ?_); rintro e w4 ⟨rfl, hb4⟩; replace hb2 := nextB hb2 hb4)
                | (go_at_call 19; refine (MV.out _ (hI.out.next hb2) (hT.out.next hb2)).mono ?_; rintro e w5 ⟨rfl, hb5⟩; replace hb2 := nextB hb2 hb5)
                | (go_at_call 16; refine (hAl.out _ (hT.out.next hb2)).mono ?_; rintro e w6 ⟨rfl, hb6⟩))
              go_ret
              exact Ret.mk rfl (nextB hb2 hb6)
      · have tn := tE_pos P0 isSide_W
        have C0 := fun W hW hTW => Winner_any (m : Int) a n c R s strW W hW hn'.out hTW
        have M0 := fun W hW hTW => Move_any (m : Int) a n c R s strW W hW hn'.out hTW
        rw [winS_pos tn, tn] at C0
        have hme := mvE_pos tn
        have hsN : sideN strW = 0 := by unfold sideN; simp
        have hmi : mvE (m : Int) R s strW = 0 → mvI (m : Int) R s strW = mvL (frL m (psB s 119 m) (psB s 100 m)) (wB m R (psB s 119 m) (psB s 100 m) 0) := fun h => by
          unfold mvI
          rw [if_pos h, hsN]; rfl
        have hmn : mvE (m : Int) R s strW ≠ 0 → mvI (m : Int) R s strW = 0 := fun h => by
          unfold mvI
          rw [if_neg h]
        have CA : ∀ i, i < m → bytA s i = 46 → winS (m : Int) R (setS s i 119) strD = ltr (sd (aftB m R (psB s 119 m) (psB s 100 m) 0 i)) ∧ tE (m : Int) R (setS s i 119) strD = 0 := fun i hi hd => by
          have t1 := tE_pos (s := setS s i 119) (setS_ok (b := 119) hF hs hok hi (by omega)).1 isSide_D
          refine ⟨?_, t1⟩
          rw [winS_pos t1, (setS_W hs hi hd).1, (setS_W hs hi hd).2, sideN_D]
          rfl
        have CC := fun i (hi : i < m) (hd : bytA s i = 46) W hW hTW => (CA i hi hd).1 ▸ (CA i hi hd).2 ▸ Winner_any (m : Int) a n c R (setS s i 119) strD W hW hn'.out hTW
        have PC := fun i (hi : i < m) W => (show Calls Tryd.prog 40 #[.string s, .int .i64 (i : Nat), .int .u8 119] W (Ret (.string (setS s i 119)) W) from placed_any s i 119 (by omega) (by omega) W)
        rw [sideN_W] at C0
        have MF := moves_fact (m := m) (R := R) (u := psB s 119 m) (v := psB s 100 m) (sn := 0) (by omega)
        have FD : ∀ i, i ∈ frL m (psB s 119 m) (psB s 100 m) ↔ i < m ∧ bytA s i = 46 := fun i => free_dot hs hok
        unfold strW at C0 M0
        unfold strD at CC
        clear CA tn P0 hsN
        obtain ⟨q, hq⟩ : ∃ q, mvE (m : Int) R s strW = q := ⟨_, rfl⟩
        obtain ⟨k, hk⟩ : ∃ k, mvI (m : Int) R s strW = k := ⟨_, rfl⟩
        have M0' := fun W hW hTW => hk ▸ hq ▸ M0 W hW hTW
        rw [hq] at hme hmi hmn
        rw [hk] at hmi hmn
        clear M0 hq hk
        generalize psB s 119 (m : Int).toNat = u0 at *
        generalize psB s 100 (m : Int).toNat = v0 at *
        generalize psB s 119 m = u at *
        generalize psB s 100 m = v at *
        generalize hA : win m R u v (0 == 1) = A at *
        have hA2 : win m R u v false = A := hA
        rw [hA2] at C0
        clear hA hA2
        replace hF := Lib.hid hF
        replace hok := Lib.hid hok
        clear hm
        by_cases h0 : frL m u v = [] ∨ hasOne R u = true
        · rw [if_pos h0] at hme
          subst hme
          obtain rfl := hmn (by omega)
          have MV := Lib.hid M0'
          have la := ltr_list A
          generalize ltr (sd A) = La at *
          have K1 := Lib.hid C0
          replace PL := PL
          clear MF CC PC C0 M0' FD hmi hmn
          replace h0 := Lib.hid h0
          go_enter Tryd.func10, Tryd.ntmps10
          go_wp2_with (first
            | (go_at_call 15; refine (hFw.out _).mono ?_; rintro e w1 ⟨rfl, rfl⟩)
            | (go_at_call 44; refine (PL.out _ hI.out).mono ?_; rintro e w2 ⟨rfl, hb2⟩)
            | (go_at_call 17; refine (K1.out _ (hI.out.next hb2) (hT.out.next hb2)).mono ?_; rintro e w4 ⟨rfl, hb4⟩; replace hb2 := nextB hb2 hb4)
            | (go_at_call 19; refine (MV.out _ (hI.out.next hb2) (hT.out.next hb2)).mono ?_; rintro e w5 ⟨rfl, hb5⟩; replace hb2 := nextB hb2 hb5)
            | (go_at_call 16; refine (hAl.out _ (hT.out.next hb2)).mono ?_; rintro e w6 ⟨rfl, hb6⟩))
          go_ret
          exact Ret.mk rfl (nextB hb2 hb6)
        · rw [if_neg h0] at hme
          subst hme
          obtain hk := hmi rfl
          have h01 : hasOne R u = false := by cases hh : hasOne R u; rfl; exact absurd (.inr hh) h0
          obtain ⟨g1, g2, g3⟩ := MF h01 (fun h => h0 (.inl h))
          rw [← hk] at g1 g2 g3
          obtain ⟨hkm, hkd⟩ := (FD k).1 g1
          have hks : k < s.size := by omega
          have hts : t < s.size := by omega
          have hbk : (s[k]'hks).toNat = 46 := by unfold bytA at hkd; rw [dif_pos hks] at hkd; exact hkd
          have hbt : bytA s t = (s[t]'hts).toNat := by unfold bytA; rw [dif_pos hts]
          have K1 := Lib.hid C0
          have K2 := Lib.hid (CC k hkm hkd)
          have PC1 := Lib.hid (PC k hkm)
          have PC2 := Lib.hid (PC t htm)
          have MV := Lib.hid M0'
          have hkI : (k : Int) < (m : Int) := by omega
          have hk00 : ¬ ((k : Int) < 0) := by omega
          have hk01 : ¬ ((m : Int) ≤ (k : Int)) := by omega
          have htI : (t : Int) < (m : Int) := by omega
          generalize hB : aftB m R u v 0 k = B at *
          clear hmi hmn hkd hB
          by_cases c1 : (s[t]'hts).toNat = 46
          · have htd : bytA s t = 46 := hbt.trans c1
            have K3 := Lib.hid (CC t htm htd)
            have g4 := g3 t ((FD t).2 ⟨htm, htd⟩)
            generalize hC : aftB m R u v 0 t = C at *
            clear CC PC C0 M0' FD g1 g3 MF htd hbt hC
            replace h0 := Lib.hid h0
            replace h01 := Lib.hid h01
            replace hk := Lib.hid hk
            cases A <;> cases B <;> cases C
            all_goals first
              | (exfalso; revert g2; decide)
              | (exfalso; revert g4; intro g4; exact absurd (g4 rfl).1 (by decide))
              | skip
            all_goals
              try have hkt : (k : Int) ≤ (t : Int) := by have := (g4 rfl).2; omega
              clear g2 g4
              have la := ltr_list false
              have lb := ltr_list true
              simp only [Bool.false_eq_true, if_false, if_true] at la lb
              generalize ltr (sd false) = La at *
              generalize ltr (sd true) = Lb at *
              generalize setS s k 119 = S1 at *
              generalize setS s t 119 = S2 at *
              go_enter Tryd.func10, Tryd.ntmps10
              go_wp2_with (first
                | (go_at_call 15; refine (hFw.out _).mono ?_; rintro e w1 ⟨rfl, rfl⟩)
                | (go_at_call 44; refine (PL.out _ hI.out).mono ?_; rintro e w2 ⟨rfl, hb2⟩)
                | (go_at_call 40; (with_reducible refine (PC1.out _).mono ?_); rintro e w3 ⟨rfl, hb3⟩; replace hb2 := nextB hb2 hb3)
                | (go_at_call 40; (with_reducible refine (PC2.out _).mono ?_); rintro e w3 ⟨rfl, hb3⟩; replace hb2 := nextB hb2 hb3)
                | (go_at_call 17; (with_reducible refine (K1.out _ (hI.out.next hb2) (hT.out.next hb2)).mono ?_); rintro e w4 ⟨rfl, hb4⟩; replace hb2 := nextB hb2 hb4)
                | (go_at_call 17; (with_reducible refine (K2.out _ (hI.out.next hb2) (hT.out.next hb2)).mono ?_); rintro e w4 ⟨rfl, hb4⟩; replace hb2 := nextB hb2 hb4)
                | (go_at_call 17; (with_reducible refine (K3.out _ (hI.out.next hb2) (hT.out.next hb2)).mono ?_); rintro e w4 ⟨rfl, hb4⟩; replace hb2 := nextB hb2 hb4)
                | (go_at_call 19; refine (MV.out _ (hI.out.next hb2) (hT.out.next hb2)).mono ?_; rintro e w5 ⟨rfl, hb5⟩; replace hb2 := nextB hb2 hb5)
                | (go_at_call 16; refine (hAl.out _ (hT.out.next hb2)).mono ?_; rintro e w6 ⟨rfl, hb6⟩))
              go_ret
              exact Ret.mk rfl (nextB hb2 hb6)
          · have ct : (((s[t]'hts).toNat : Int) != 46) = true := by rw [bne_iff_ne]; omega
            have ct2 : (((s[t]'hts).toNat : Int) == 46) = false := by rw [beq_eq_false_iff_ne]; omega
            clear CC PC C0 M0' FD g1 g3 MF hbt c1
            replace h0 := Lib.hid h0
            replace h01 := Lib.hid h01
            replace hk := Lib.hid hk
            cases A <;> cases B
            all_goals first
              | (exfalso; revert g2; decide)
              | skip
            all_goals
              clear g2
              have la := ltr_list false
              have lb := ltr_list true
              simp only [Bool.false_eq_true, if_false, if_true] at la lb
              generalize ltr (sd false) = La at *
              generalize ltr (sd true) = Lb at *
              generalize setS s k 119 = S1 at *
              go_enter Tryd.func10, Tryd.ntmps10
              go_wp2_with (first
                | (go_at_call 15; refine (hFw.out _).mono ?_; rintro e w1 ⟨rfl, rfl⟩)
                | (go_at_call 44; refine (PL.out _ hI.out).mono ?_; rintro e w2 ⟨rfl, hb2⟩)
                | (go_at_call 40; (with_reducible refine (PC1.out _).mono ?_); rintro e w3 ⟨rfl, hb3⟩; replace hb2 := nextB hb2 hb3)
                | (go_at_call 17; (with_reducible refine (K1.out _ (hI.out.next hb2) (hT.out.next hb2)).mono ?_); rintro e w4 ⟨rfl, hb4⟩; replace hb2 := nextB hb2 hb4)
                | (go_at_call 17; (with_reducible refine (K2.out _ (hI.out.next hb2) (hT.out.next hb2)).mono ?_); rintro e w4 ⟨rfl, hb4⟩; replace hb2 := nextB hb2 hb4)
                | (go_at_call 19; refine (MV.out _ (hI.out.next hb2) (hT.out.next hb2)).mono ?_; rintro e w5 ⟨rfl, hb5⟩; replace hb2 := nextB hb2 hb5)
                | (go_at_call 16; refine (hAl.out _ (hT.out.next hb2)).mono ?_; rintro e w6 ⟨rfl, hb6⟩))
              go_ret
              exact Ret.mk rfl (nextB hb2 hb6)
    · have d1 : ((e : Int) != 0) = true := by rw [bne_iff_ne]; omega
      go_enter Tryd.func10, Tryd.ntmps10
      go_wp2_with (first
        | (go_at_call 15; refine (hFw.out _).mono ?_; rintro e w1 ⟨rfl, rfl⟩)
        | (go_at_call 44; refine (PL.out _ hI.out).mono ?_; rintro e w2 ⟨rfl, hb2⟩)
        | (go_at_call 16; refine (hAl.out _ (hT.out.next hb2)).mono ?_; rintro e w1 ⟨rfl, hb1⟩))
      go_ret
      exact Ret.mk rfl (nextB hb2 hb1)
end Go.Proofs.YtgafmloljcgnoaaDoor
