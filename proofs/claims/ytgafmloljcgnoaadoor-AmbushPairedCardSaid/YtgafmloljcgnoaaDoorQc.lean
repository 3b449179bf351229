/- AmbushMore: a spot more for the wolves; whoever is next. -/
import Derived.Test.YtgafmloljcgnoaaDoorQb
namespace Go.Proofs.YtgafmloljcgnoaaDoor
open Go Go.RowKit

theorem ltr_list (b : Bool) : (ltr (sd b)).toList = if b then [119] else [100] := by
  cases b
  · exact strD_list
  · exact strW_list
/-- The dots of a text, counted. -/
def dotN (s : ByteArray) : Nat → Nat
  | 0 => 0
  | k + 1 => dotN s k + (if bytA s k = 46 then 1 else 0)
theorem dotN_le (s : ByteArray) (k : Nat) : dotN s k ≤ k := by
  induction k with
  | zero => exact Nat.le_refl _
  | succ k ih => rw [dotN]; split <;> omega
set_option maxRecDepth 100000 in
set_option maxHeartbeats 2000000 in
theorem free_any (s : ByteArray) (n : Nat) (hn : s.size = n) (h40 : n ≤ 1000) (w : World) : Calls Tryd.prog 39 #[.string s] w (Only (.int .i64 (dotN s n : Nat)) w) := by
  have hle := Lib.hid (dotN_le s)
  have hsz : (s.size : Int) = (n : Int) := by omega
  go_enter Tryd.func39, Tryd.ntmps39
  go_wp2
  go_loop [3, 4] (fun c i => ∃ k : Nat, k ≤ n ∧ i = .int .i64 k ∧ c = .int .i64 (dotN s k : Nat)) (fun _ i => n - (intOf i).toNat)
  case atStart => exact ⟨0, by omega, rfl, rfl⟩
  case round =>
    obtain ⟨k, hk, rfl, rfl⟩ := hrel
    have hlk := hle.out k
    by_cases hlt : k < n
    · have hki : (k : Int) < (n : Int) := by omega
      have hks : k < s.size := by omega
      have hbz : Hid (bytA s k = (s[k]'hks).toNat) := Lib.hid (by unfold bytA; rw [dif_pos hks])
      by_cases c1 : (s[k]'hks).toNat = 46
      · have hst : Hid (dotN s (k + 1) = dotN s k + 1) := Lib.hid (by rw [dotN, if_pos (hbz.out.trans c1)])
        generalize dotN s k = d at *
        go_wp2
        go_round
        case rel => exact ⟨k + 1, by omega, by go_num, by rw [hst.out]; go_num⟩
        case measure => simp [intOf]; omega
      · have hst : Hid (dotN s (k + 1) = dotN s k) := Lib.hid (by rw [dotN, if_neg (by rw [hbz.out]; exact c1)]; rfl)
        have d1 : (((s[k]'hks).toNat : Int) == 46) = false := by rw [beq_eq_false_iff_ne]; omega
        generalize dotN s k = d at *
        clear c1
        go_wp2
        go_round
        case rel => exact ⟨k + 1, by omega, by go_num, by rw [hst.out]⟩
        case measure => simp [intOf]; omega
    · obtain rfl : k = n := by omega
      go_wp2
      go_ret
      exact Only.mk rfl
theorem okS_at {s : ByteArray} (h : okS s = true) {i : Nat} (hi : i < s.size) : bytA s i = 119 ∨ bytA s i = 100 ∨ bytA s i = 46 := by
  unfold okS at h
  rw [List.all_eq_true] at h
  have := h i (List.mem_range.2 hi)
  unfold okB at this
  simp only [Bool.or_eq_true, beq_iff_eq] at this
  omega
theorem okS_of {s : ByteArray} (h : ∀ i, i < s.size → bytA s i = 119 ∨ bytA s i = 100 ∨ bytA s i = 46) : okS s = true := by
  unfold okS
  rw [List.all_eq_true]
  intro i hi
  have := h i (List.mem_range.1 hi)
  unfold okB
  simp only [Bool.or_eq_true, beq_iff_eq]
  omega
/-- A spot is free where the text has a dot. -/
theorem free_dot {s : ByteArray} {m : Nat} (hm : s.size = m) (h : okS s = true) {i : Nat} : i ∈ frL m (psB s 119 m) (psB s 100 m) ↔ i < m ∧ bytA s i = 46 := by
  rw [frL_mem, psB_test, psB_test]
  constructor
  · rintro ⟨h1, h2, h3⟩
    simp only [h1, decide_true, Bool.true_and, decide_eq_false_iff_not] at h2 h3
    have := okS_at h (show i < s.size by omega)
    exact ⟨h1, by omega⟩
  · rintro ⟨h1, h2⟩
    simp [h1, h2]
theorem dotN_pos {s : ByteArray} : ∀ k, dotN s k ≠ 0 → ∃ i, i < k ∧ bytA s i = 46 := by
  intro k
  induction k with
  | zero => intro h; exact absurd rfl h
  | succ k ih =>
    intro h
    rw [dotN] at h
    by_cases e : bytA s k = 46
    · exact ⟨k, by omega, e⟩
    · rw [if_neg e] at h
      obtain ⟨i, hi, hb⟩ := ih (by omega)
      exact ⟨i, by omega, hb⟩
/-- A position with a spot taken is a position. -/
theorem setS_ok {m : Nat} {R : List Int} {s : ByteArray} {k b : Nat} (hF : FieldP m R) (hs : s.size = m) (h : okS s = true) (hk : k < m) (hb : b = 119 ∨ b = 100) :
    pE (m : Int) R (setS s k b) = 0 ∧ okS (setS s k b) = true := by
  have h1 : okS (setS s k b) = true := okS_of fun i hi => by
    rw [setS_size] at hi
    rw [setS_at s k b i (by omega) (by omega)]
    by_cases e : i = k
    · rw [if_pos e]; omega
    · rw [if_neg e]; exact okS_at h hi
  refine ⟨?_, h1⟩
  unfold pE
  rw [if_pos (fE_field hF), if_pos ⟨by rw [setS_size]; omega, h1⟩]
theorem pE_pos {m : Nat} {R : List Int} {s : ByteArray} (hF : FieldP m R) (hs : s.size = m) (h : okS s = true) : pE (m : Int) R s = 0 := by
  unfold pE
  rw [if_pos (fE_field hF), if_pos ⟨by omega, h⟩]
theorem tE_pos {m : Nat} {R : List Int} {s t : ByteArray} (h : pE (m : Int) R s = 0) (ht : isSide t = true) : tE (m : Int) R s t = 0 := by
  unfold tE
  rw [if_pos h, if_pos ht]
theorem winS_pos {m : Nat} {R : List Int} {s t : ByteArray} (h : tE (m : Int) R s t = 0) : winS (m : Int) R s t = ltr (sd (win m R (psB s 119 m) (psB s 100 m) (sideN t == 1))) := by
  unfold winS
  rw [if_pos h]; rfl
theorem isSide_W : isSide strW = true := by unfold isSide; simp
theorem isSide_D : isSide strD = true := by unfold isSide; simp
theorem sideN_W : (sideN strW == 1) = false := by unfold sideN; simp
theorem sideN_D : (sideN strD == 1) = true := by
  unfold sideN
  rw [strW_list, strD_list]; rfl
theorem setS_psB {s : ByteArray} {m k b : Nat} (hs : s.size = m) (hk : k < m) (hb : b < 256) (c : Nat) (i : Nat) : (psB (setS s k b) c m).testBit i = (decide (i < m) && decide ((if i = k then b else bytA s i) = c)) := by
  rw [psB_test, setS_at s k b i hb (by omega)]
theorem better_set {s : ByteArray} {m k : Nat} (hs : s.size = m) (hk : k < m) : Better (psB s 119 m) (psB s 100 m) (psB (setS s k 119) 119 m) (psB (setS s k 119) 100 m) := by
  refine ⟨fun i hi => ?_, fun i hi => ?_⟩
  · rw [setS_psB hs hk (by omega)]
    rw [psB_test] at hi
    simp only [Bool.and_eq_true, decide_eq_true_eq] at hi ⊢
    refine ⟨hi.1, ?_⟩
    by_cases e : i = k
    · rw [if_pos e]
    · rw [if_neg e]; exact hi.2
  · rw [setS_psB hs hk (by omega)] at hi
    rw [psB_test]
    simp only [Bool.and_eq_true, decide_eq_true_eq] at hi ⊢
    refine ⟨hi.1, ?_⟩
    by_cases e : i = k
    · rw [if_pos e] at hi; omega
    · rw [if_neg e] at hi; exact hi.2
set_option maxRecDepth 100000 in
set_option maxHeartbeats 2000000 in
theorem more_any (x : Int) (a : Option Addr) (n c : Nat) (R : List Int) (s : ByteArray) (wolves : Bool) (sp : Nat) (w : World) (h : Ints w a R) (hn : R.length = n) (_hnc : n ≤ c) (_hnil : a = none → c = 0) (hsp : sp ≤ 255) (hT : Tab w) :
    Calls Tryd.prog 9 #[.int .i64 x, .slice a n c, .string s, .bool wolves, .int .u8 (sp : Nat)] w (Ret (.bool true) w) := by
  have hAl := Lib.hid (fun W hW => alive_any W hW)
  have hFw := Lib.hid (fun W => few_any n c a s strE W)
  replace hT := Lib.hid hT
  cases hf : decide (n ≤ 40) && decide (s.size ≤ 40)
  · have hf2 : (decide (n ≤ 40) && decide (s.size ≤ 40) && decide (strE.size ≤ 40)) = false := by rw [hf]; rfl
    rw [hf2] at hFw
    clear hn
    go_enter Tryd.func9, Tryd.ntmps9
    go_wp2_with (first
      | (go_at_call 15; refine (hFw.out _).mono ?_; rintro e w1 ⟨rfl, rfl⟩)
      | (go_at_call 16; refine (hAl.out _ hT.out).mono ?_; rintro e w1 ⟨rfl, hb1⟩))
    go_ret
    exact Ret.mk rfl hb1
  · have hf2 : (decide (n ≤ 40) && decide (s.size ≤ 40) && decide (strE.size ≤ 40)) = true := by rw [hf]; rfl
    rw [hf2] at hFw
    have PL := Lib.hid (fun W hW => refPlaced_any x a n c R s W hW hn)
    have hI := Lib.hid h
    have hn' := Lib.hid hn
    obtain ⟨e, he⟩ : ∃ e, Hid (pE x R s = e) := ⟨_, Lib.hid rfl⟩
    have he6 : e < 6 := by rw [← he.out]; exact pE_lt x R s
    rw [he.out] at PL
    clear hf hf2 h hn
    by_cases h1 : e = 0
    · subst h1
      obtain ⟨hx, hF, hs, hok⟩ := pE_ok he.out
      obtain ⟨m, hm⟩ : ∃ m, x.toNat = m := ⟨_, rfl⟩
      rw [hm] at hx hF hs
      subst hx
      have hpos := psB_pos s m
      have hm1 := hF.pos
      have hm9 := hF.le
      have hk : sp % m < m := Nat.mod_lt _ (by omega)
      obtain ⟨p1, p2⟩ := setS_ok (b := 119) hF hs hok hk (by omega)
      have hpos2 := psB_pos (setS s (sp % m) 119) m
      have hbet := better_set (k := sp % m) hs hk
      obtain ⟨mono, tempo0⟩ := win_more (L := R) _ _ _ _ _ rfl hpos hpos2 hbet
      have tempo := (win_more (L := R) _ _ _ _ _ rfl hpos hpos ⟨fun _ h => h, fun _ h => h⟩).2
      have PC := Lib.hid (fun W => placed_any s (sp % m) 119 (by omega) (by omega) W)
      have hdot : dotN s m ≠ 0 → frL m (psB s 119 m) (psB s 100 m) ≠ [] := fun hd => by
        obtain ⟨i, hi, hb⟩ := dotN_pos m hd
        intro hnil
        have := (free_dot hs hok).2 ⟨hi, hb⟩
        rw [hnil] at this; cases this
      have FR := Lib.hid (fun W => free_any s m hs (by omega) W)
      obtain ⟨A, hA⟩ : ∃ A : Bool → Bool, A = fun nx => win m R (psB s 119 m) (psB s 100 m) nx := ⟨_, rfl⟩
      obtain ⟨B, hB⟩ : ∃ B : Bool → Bool, B = fun nx => win m R (psB (setS s (sp % m) 119) 119 m) (psB (setS s (sp % m) 119) 100 m) nx := ⟨_, rfl⟩
      have W1 : ∀ t, isSide t = true → winS (m : Int) R s t = ltr (sd (A (sideN t == 1))) ∧ tE (m : Int) R s t = 0 := fun t ht => by
        have := tE_pos (s := s) (t := t) (pE_pos hF hs hok) ht
        exact ⟨by rw [winS_pos this, hA], this⟩
      have W2 : ∀ t, isSide t = true → winS (m : Int) R (setS s (sp % m) 119) t = ltr (sd (B (sideN t == 1))) ∧ tE (m : Int) R (setS s (sp % m) 119) t = 0 := fun t ht => by
        have := tE_pos (s := setS s (sp % m) 119) (t := t) p1 ht
        exact ⟨by rw [winS_pos this, hB], this⟩
      have mono' : ∀ nx, A nx = true → B nx = true := fun nx hh => by rw [hA] at hh; rw [hB]; exact mono nx hh
      have tempo' : A true = true → dotN s m ≠ 0 → A false = true := fun hh hd => by rw [hA] at hh ⊢; exact tempo hh (hdot hd)
      have C1 := fun t (ht : isSide t = true) W hW hTW => (W1 t ht).1 ▸ (W1 t ht).2 ▸ Winner_any (m : Int) a n c R s t W hW hn'.out hTW
      have C2 := fun t (ht : isSide t = true) W hW hTW => (W2 t ht).1 ▸ (W2 t ht).2 ▸ Winner_any (m : Int) a n c R (setS s (sp % m) 119) t W hW hn'.out hTW
      have CW1 := C1 strW isSide_W
      have CD1 := C1 strD isSide_D
      have CW2 := C2 strW isSide_W
      have CD2 := C2 strD isSide_D
      rw [sideN_W] at CW1 CW2
      rw [sideN_D] at CD1 CD2
      have hrem : (sp : Int).tmod (m : Int) = ((sp % m : Nat) : Int) := by rw [Int.tmod_eq_emod_of_nonneg (by omega)]; exact (Int.natCast_emod _ _).symm
      have hcv : IntKind.i64.wrap (sp : Int) = (sp : Int) := IntWalk.i64_in _ (by omega)
      have hmz : ((m : Int) == 0) = false := by rw [beq_eq_false_iff_ne]; omega
      simp only [if_true] at PL
      clear mono tempo0 tempo hA hB hbet hdot hpos hpos2
      replace hF := Lib.hid hF
      replace hok := Lib.hid hok
      clear p1 p2
      generalize dotN s m = d at *
      generalize setS s (sp % m) 119 = T at *
      generalize sp % m = k at *
      generalize psB s 119 (m : Int).toNat = u0 at *
      generalize psB s 100 (m : Int).toNat = v0 at *
      clear hm
      cases wolves
      · have m1 := mono' true
        clear mono'
        obtain ⟨qa, hqa⟩ : ∃ q, A true = q := ⟨_, rfl⟩
        obtain ⟨qb, hqb⟩ : ∃ q, B true = q := ⟨_, rfl⟩
        obtain ⟨qc, hqc⟩ : ∃ q, A false = q := ⟨_, rfl⟩
        rw [hqa] at CD1 m1 tempo'
        rw [hqb] at CD2 m1
        rw [hqc] at CW1 tempo'
        clear hqa hqb hqc W1 W2 C1 C2
        unfold strD at CD1 CD2
        unfold strW at CW1 CW2
        have la := ltr_list qa
        have lb := ltr_list qb
        have lc := ltr_list qc
        generalize ltr (sd qa) = La at *
        generalize ltr (sd qb) = Lb at *
        generalize ltr (sd qc) = Lc at *
        have K1 := Lib.hid CD1
        have K2 := Lib.hid CD2
        have K3 := Lib.hid CW1
        clear CW1 CD1 CW2 CD2
        by_cases hd : d = 0
        all_goals
          cases qa <;> cases qb <;> cases qc
          all_goals first
            | (exfalso; revert m1; simp; done)
            | (exfalso; revert tempo'; simp [hd]; done)
            | skip
        all_goals
          clear m1 tempo'
          simp only [Bool.false_eq_true, if_false, if_true] at la lb lc
          try have d0 : ((d : Int) == 0) = true := by rw [hd]; rfl
          try have d0 : ((d : Int) == 0) = false := by rw [beq_eq_false_iff_ne]; omega
          replace hd := Lib.hid hd
          go_enter Tryd.func9, Tryd.ntmps9
          go_wp2_with (first
            | (go_at_call 15; refine (hFw.out _).mono ?_; rintro e w1 ⟨rfl, rfl⟩)
            | (go_at_call 44; refine (PL.out _ hI.out).mono ?_; rintro e w2 ⟨rfl, hb2⟩)
            | (go_at_call 40; refine (PC.out _).mono ?_; rintro e w3 ⟨rfl, hb3⟩; replace hb2 := nextB hb2 hb3)
            | (go_at_call 17; (with_reducible refine (K1.out _ (hI.out.next hb2) (hT.out.next hb2)).mono ?_); rintro e w4 ⟨rfl, hb4⟩; replace hb2 := nextB hb2 hb4)
            | (go_at_call 17; (with_reducible refine (K2.out _ (hI.out.next hb2) (hT.out.next hb2)).mono ?_); rintro e w4 ⟨rfl, hb4⟩; replace hb2 := nextB hb2 hb4)
            | (go_at_call 17; (with_reducible refine (K3.out _ (hI.out.next hb2) (hT.out.next hb2)).mono ?_); rintro e w4 ⟨rfl, hb4⟩; replace hb2 := nextB hb2 hb4)
            | (go_at_call 39; refine (FR.out _).mono ?_; rintro e w5 ⟨rfl, rfl⟩)
            | (go_at_call 16; refine (hAl.out _ (hT.out.next hb2)).mono ?_; rintro e w6 ⟨rfl, hb6⟩))
          go_ret
          exact Ret.mk rfl (nextB hb2 hb6)
      · have m1 := mono' false
        clear mono'
        obtain ⟨qa, hqa⟩ : ∃ q, A false = q := ⟨_, rfl⟩
        obtain ⟨qb, hqb⟩ : ∃ q, B false = q := ⟨_, rfl⟩
        obtain ⟨qc, hqc⟩ : ∃ q, A true = q := ⟨_, rfl⟩
        rw [hqa] at CW1 m1 tempo'
        rw [hqb] at CW2 m1
        rw [hqc] at CD1 tempo'
        clear hqa hqb hqc W1 W2 C1 C2
        unfold strD at CD1 CD2
        unfold strW at CW1 CW2
        have la := ltr_list qa
        have lb := ltr_list qb
        have lc := ltr_list qc
        generalize ltr (sd qa) = La at *
        generalize ltr (sd qb) = Lb at *
        generalize ltr (sd qc) = Lc at *
        have K1 := Lib.hid CW1
        have K2 := Lib.hid CW2
        have K3 := Lib.hid CD1
        clear CW1 CD1 CW2 CD2
        by_cases hd : d = 0
        all_goals
          cases qa <;> cases qb <;> cases qc
          all_goals first
            | (exfalso; revert m1; simp; done)
            | (exfalso; revert tempo'; simp [hd]; done)
            | skip
        all_goals
          clear m1 tempo'
          simp only [Bool.false_eq_true, if_false, if_true] at la lb lc
          try have d0 : ((d : Int) == 0) = true := by rw [hd]; rfl
          try have d0 : ((d : Int) == 0) = false := by rw [beq_eq_false_iff_ne]; omega
          replace hd := Lib.hid hd
          go_enter Tryd.func9, Tryd.ntmps9
          go_wp2_with (first
            | (go_at_call 15; refine (hFw.out _).mono ?_; rintro e w1 ⟨rfl, rfl⟩)
            | (go_at_call 44; refine (PL.out _ hI.out).mono ?_; rintro e w2 ⟨rfl, hb2⟩)
            | (go_at_call 40; refine (PC.out _).mono ?_; rintro e w3 ⟨rfl, hb3⟩; replace hb2 := nextB hb2 hb3)
            | (go_at_call 17; (with_reducible refine (K1.out _ (hI.out.next hb2) (hT.out.next hb2)).mono ?_); rintro e w4 ⟨rfl, hb4⟩; replace hb2 := nextB hb2 hb4)
            | (go_at_call 17; (with_reducible refine (K2.out _ (hI.out.next hb2) (hT.out.next hb2)).mono ?_); rintro e w4 ⟨rfl, hb4⟩; replace hb2 := nextB hb2 hb4)
            | (go_at_call 17; (with_reducible refine (K3.out _ (hI.out.next hb2) (hT.out.next hb2)).mono ?_); rintro e w4 ⟨rfl, hb4⟩; replace hb2 := nextB hb2 hb4)
            | (go_at_call 39; refine (FR.out _).mono ?_; rintro e w5 ⟨rfl, rfl⟩)
            | (go_at_call 16; refine (hAl.out _ (hT.out.next hb2)).mono ?_; rintro e w6 ⟨rfl, hb6⟩))
          go_ret
          exact Ret.mk rfl (nextB hb2 hb6)
    · have d1 : ((e : Int) != 0) = true := by rw [bne_iff_ne]; omega
      go_enter Tryd.func9, Tryd.ntmps9
      go_wp2_with (first
        | (go_at_call 15; refine (hFw.out _).mono ?_; rintro e w1 ⟨rfl, rfl⟩)
        | (go_at_call 44; refine (PL.out _ hI.out).mono ?_; rintro e w2 ⟨rfl, hb2⟩)
        | (go_at_call 16; refine (hAl.out _ (hT.out.next hb2)).mono ?_; rintro e w1 ⟨rfl, hb1⟩))
      go_ret
      exact Ret.mk rfl (nextB hb2 hb1)
end Go.Proofs.YtgafmloljcgnoaaDoor
