/- Layer 4: AmbushBegins returns true, and changes nothing. -/
import Derived.Test.YtbdhceolchhnjaaDoorGd
import Derived.Test.YtbdhceolchhnjaaDoorUd
namespace Go.Proofs.YtbdhceolchhnjaaDoor
open Go Go.RowKit

set_option maxRecDepth 100000 in
set_option maxHeartbeats 16000000 in
theorem begins_any (x : Int) (a : Option Addr) (n c : Nat) (R : List Int) (sp : Nat) (w : World) (h : Ints w a R) (hn : R.length = n) (_hnc : n ≤ c) (_hnil : a = none → c = 0) (hsp : sp ≤ 65535) (hT : Tab w) :
    Calls Tryd.prog 7 #[.int .i64 x, .slice a n c, .int .u16 (sp : Nat)] w (Ret (.bool true) w) := by
  have hAl := Lib.hid (fun W hW => alive_any W hW)
  have hFw := fun W => few_any n c a strE strE W
  rw [strE_few] at hFw
  unfold strE at hFw
  replace hT := Lib.hid hT
  have RF := Lib.hid (fun W hW => refField_any x a n c R W hW hn)
  have hI := Lib.hid h
  have hn' := Lib.hid hn
  clear h hn
  obtain ⟨e, he⟩ : ∃ e, Hid (fE x R = e) := ⟨_, Lib.hid rfl⟩
  have he4 : e < 4 := by rw [← he.out]; exact fE_lt x R
  rw [he.out] at RF
  by_cases q1 : n ≤ 40
  · rw [decide_eq_true q1] at hFw
    replace hFw := Lib.hid hFw
    by_cases h1 : e = 0
    · subst h1
      obtain ⟨hx, hF⟩ := fE_ok he.out
      obtain ⟨m, hm⟩ : ∃ m, x.toNat = m := ⟨_, rfl⟩
      rw [hm] at hx hF
      subst hx
      have hm1 := hF.pos
      have hm9 := hF.le
      have GU := Lib.hid (fun W hW hTW => Guards_any m a n c R W hW hn'.out hF hTW)
      have ND := fun W hW hTW => Needs_any (m : Int) a n c R W hW hn'.out hTW
      have e5 : ndE (m : Int) R = if R.length = 0 then 10 else 0 := by unfold ndE; rw [if_pos he.out]
      have e6 : ndE (m : Int) R = 0 → ndI (m : Int) R = ndTo m R (pw m) := fun h => by unfold ndI; rw [if_pos h]; rfl
      have e7 : ndE (m : Int) R ≠ 0 → ndI (m : Int) R = 0 := fun h => by unfold ndI; rw [if_neg h]
      have WN : Hid (∀ (s' t : ByteArray) (b : Bool), s'.size = m → okS s' = true → isSide t = true → win m R (psB s' 119 m) (psB s' 100 m) (sideN t == 1) = b → ∀ W, Ints W a R → Tab W → Calls Tryd.prog 12 #[.int .i64 (m : Nat), .slice a n c, .string s', .string t] W (Ret (.tuple #[.string (ltr (sd b)), .int .i64 0]) W)) := Lib.hid (fun s' t b h1 h2 h3 h4 W hW hTW => by
        have tn := tE_pos (pE_pos hF h1 h2) h3
        have := Winner_any (m : Int) a n c R s' t W hW hn'.out hTW
        rw [winS_pos tn, tn, h4] at this
        exact this)
      have WR := Lib.hid (fun W => written_any m hm9 W)
      have hp9 : pw m ≤ 512 := by have := pw_mono hm9; have h4 : pw 9 = 512 := rfl; omega
      have hpp := pw_pos m
      obtain ⟨sv, hsv⟩ : ∃ sv, sp % pw m = sv := ⟨_, rfl⟩
      have hsl : sv < pw m := by rw [← hsv]; exact Nat.mod_lt _ hpp
      have hrem : (sp : Int).tmod ((pw m : Nat) : Int) = (sv : Int) := by rw [Int.tmod_eq_emod_of_nonneg (by omega), ← hsv]; exact (Int.natCast_emod _ _).symm
      have hcv : IntKind.i64.wrap (sp : Int) = (sp : Int) := IntWalk.i64_in _ (by omega)
      have sh := wrap_shl (k := m) (by omega)
      have hmin : min m 64 = m := by omega
      have hpz : (((pw m : Nat) : Int) == 0) = false := by rw [beq_eq_false_iff_ne]; omega
      have WW := Lib.hid (fun W => writtenW_any m sv hm9 (by omega) W)
      have FR := Lib.hid (fun W => free_any (wlS m sv) m (wlS_size m sv) (by omega) W)
      have PD := Lib.hid (fun k (hk : k < m) W => (show Calls Tryd.prog 33 #[.string (emp m), .int .i64 (k : Nat), .int .u8 100] W (Ret (.string (setS (emp m) k 100)) W) from placed_any (emp m) k 100 (by rw [emp_size]; exact hk) (by omega) W))
      have EW : psB (emp m) 119 m = 0 := psB_emp (by omega) m (Nat.le_refl _)
      have ED : psB (emp m) 100 m = 0 := psB_emp (by omega) m (Nat.le_refl _)
      obtain ⟨A, hA⟩ : ∃ A, win m R 0 0 true = A := ⟨_, rfl⟩
      obtain ⟨Xw, hXw⟩ : ∃ A, win m R sv 0 true = A := ⟨_, rfl⟩
      have K1 := WN.out (emp m) strD A (emp_size m) (emp_ok m) isSide_D (by rw [EW, ED, sideN_D]; exact hA)
      have K2 := WN.out (wlS m sv) strD Xw (wlS_size m sv) (wl_ok m sv) isSide_D (by rw [wl_W hsl, wl_D, sideN_D]; exact hXw)
      have K3 := fun i (hi : i < m) => WN.out (setS (emp m) i 100) strW (aftB m R 0 0 1 i) (by rw [setS_size]; exact emp_size m) (setS_ok (b := 100) hF (emp_size m) (emp_ok m) hi (by omega)).2 isSide_W (by
        rw [(setS_D (emp_size m) hi (emp_at hi)).1, (setS_D (emp_size m) hi (emp_at hi)).2, EW, ED, sideN_W]
        rfl)
      unfold strD at K1 K2
      unfold strW at K3
      replace K1 := Lib.hid K1
      replace K2 := Lib.hid K2
      replace K3 := Lib.hid K3
      have b1' := begin_one hF
      have b2' := begin_two hF
      have b3' := fun h => begin_three (m := m) (R := R) hsl h
      have b4' := Lib.hid (fun i (hi : i < m) => gd_at (R := R) hi)
      have b5' := Lib.hid (fun i (hi : i < m) => wB_aft m R i)
      have b6' := Lib.hid (fun i (hi : i < m) => kpF_next (q := wB m R 0 0 1) (l := List.range m) (j := i) (by simpa using hi))
      have b7' : Hid (gdL m R = kpF (wB m R 0 0 1) (List.range m) m) := Lib.hid (gd_kp m R)
      have b8' := Lib.hid (fun i => kpF_le (wB m R 0 0 1) (List.range m) i)
      rw [hA] at b1' b2'
      rw [hXw] at b3'
      have hle := ndTo_le m R (pw m)
      generalize hnd : ndTo m R (pw m) = nd at *
      generalize hdn : dotN (wlS m sv) m = dn at *
      generalize wlS m sv = S1 at *
      generalize hK : (gdL m R).length = K at *
      obtain ⟨f, hf⟩ : ∃ f : Nat → Nat, Hid (∀ i, (gdL m R).getD i 0 = f i) := ⟨fun i => (gdL m R).getD i 0, Lib.hid fun _ => rfl⟩
      unfold GdC at GU
      simp only [hK, hf.out] at GU b4'
      obtain ⟨qn, hqn⟩ : ∃ qn : Nat → Nat, Hid (∀ i, (kpF (wB m R 0 0 1) (List.range m) i).length = qn i) := ⟨fun i => (kpF (wB m R 0 0 1) (List.range m) i).length, Lib.hid fun _ => rfl⟩
      obtain ⟨Bf, hBf⟩ : ∃ Bf : Nat → Bool, Hid (∀ i, aftB m R 0 0 1 i = Bf i) := ⟨fun i => aftB m R 0 0 1 i, Lib.hid fun _ => rfl⟩
      obtain ⟨lt, hltr⟩ : ∃ lt : Bool → ByteArray, Hid (∀ b, ltr (sd b) = lt b) := ⟨fun b => ltr (sd b), Lib.hid fun _ => rfl⟩
      have lw : (lt true).toList = [119] := by rw [← hltr.out]; exact ltr_list true
      have ld : (lt false).toList = [100] := by rw [← hltr.out]; exact ltr_list false
      have c0 : qn 0 = 0 := by rw [← hqn.out]; rfl
      have cm : qn m = K := by rw [← hqn.out, ← b7'.out]; exact hK
      have cs : Hid (∀ i, i < m → qn (i + 1) = if Bf i = false then qn i + 1 else qn i) := Lib.hid (fun i hi => by
        have h1 := b6'.out i hi
        have hg : (List.range m).getD i 0 = i := by simp [hi]
        rw [hg, b5'.out i hi, hBf.out] at h1
        rw [← hqn.out, ← hqn.out, h1]
        cases Bf i <;> simp)
      have ca : Hid (∀ i, i < m → if Bf i = false then qn i < K ∧ f (qn i) = i else (qn i < K → f (qn i) ≠ i)) := Lib.hid (fun i hi => by
        have h1 := b4'.out i hi
        rw [b5'.out i hi, hBf.out, hqn.out] at h1
        cases hb : Bf i
        · rw [hb] at h1; simpa using h1
        · rw [hb] at h1; simpa using h1)
      have cl : Hid (∀ i, qn i ≤ i) := Lib.hid (fun i => by rw [← hqn.out]; exact b8'.out i)
      simp only [hltr.out] at K1 K2 K3
      simp only [hBf.out] at K3
      clear b4' b5' b6' b7' b8' hK hA hXw WN EW ED hsv 
      replace hF := Lib.hid hF
      replace hsl := Lib.hid hsl
      replace c0 := Lib.hid c0
      replace cm := Lib.hid cm
      by_cases hn0 : n = 0
      · subst hn0
        have hr0 : R.length = 0 := hn'.out
        rw [if_pos hr0] at e5
        have e8 := e7 (by rw [e5]; omega)
        simp only [e5, e8] at ND
        replace ND := Lib.hid ND
        clear e5 e6 e7 e8 hr0
        replace b2' := Lib.hid b2'
        replace b3' := Lib.hid b3'
        cases A
        · have hK0 : 0 < K := by simpa using b1'
          have hK1 : (0 : Int) < (K : Int) := by omega
          clear b1'
          generalize pw m = pm at *
          go_enter Tryd.func7, Tryd.ntmps7
          go_wp2_with (first
            | (go_at_call 10; refine (hFw.out _).mono ?_; rintro e w1 ⟨rfl, rfl⟩)
            | (go_at_call 31; refine (RF.out _ hI.out).mono ?_; rintro e w2 ⟨rfl, hb2⟩)
            | (go_at_call 32; refine (WR.out _).mono ?_; rintro e w3 ⟨rfl, hb3⟩; replace hb2 := nextB hb2 hb3)
            | (go_at_call 24; refine (GU.out _ (hI.out.next hb2) (hT.out.next hb2)).mono ?_; rintro e w4 ⟨g, cap, rfl, hc, hb4⟩; replace hc := Lib.hid hc; replace hb2 := nextB hb2 hb4; have hb9 := Below.refl w4.heap.size w4)
            | (go_at_call 12; (with_reducible refine (K1.out _ (hI.out.next hb2) (hT.out.next hb2)).mono ?_); rintro e w5 ⟨rfl, hb5⟩; replace hb2 := nextB hb2 hb5; replace hb9 := nextB hb9 hb5)
            | (go_at_call 26; refine (ND.out _ (hI.out.next hb2) (hT.out.next hb2)).mono ?_; rintro e w6 ⟨rfl, hb6⟩; replace hb2 := nextB hb2 hb6; replace hb9 := nextB hb9 hb6))
          try simp only [hK1.out]
          go_loopw [14, 15] (fun at' i wr => ∃ k : Nat, k ≤ m ∧ i = .int .i64 k ∧ at' = .int .i64 (qn k : Nat) ∧ Below w.heap.size w wr ∧ Below w4.heap.size w4 wr) (fun _ i _ => m - (intOf i).toNat)
          case atStart => exact ⟨0, by omega, rfl, by rw [c0.out]; rfl, hb2, hb9⟩
          case round =>
            clear hb2 hb9
            obtain ⟨k, hk, rfl, rfl, B0, B9⟩ := hrel
            by_cases hlt : k < m
            · have hki : (k : Int) < (m : Int) := by omega
              have K4 := K3.out k hlt
              have P1 := Lib.hid (PD.out k hlt)
              have hcs := cs.out k hlt
              have hca := ca.out k hlt
              have hcl := cl.out k
              cases hB : Bf k
              · rw [hB] at hcs hca K4
                simp only [if_true] at hcs hca
                obtain ⟨hlK, hfk⟩ := hca
                have x0 := cellB B9 (hc.out (qn k) hlK)
                rw [hfk, Nat.zero_add] at x0
                replace hfk := Lib.hid hfk
                replace hcs := Lib.hid hcs
                replace K4 := Lib.hid K4
                replace B0 := Lib.hid B0
                replace B9 := Lib.hid B9
                have hlKi : (qn k : Int) < (K : Int) := by omega
                generalize qn k = qk at *
                go_wp2_with (first
                  | (go_at_call 33; refine (P1.out _).mono ?_; rintro e w7 ⟨rfl, hb7⟩; replace x0 := cellB hb7 x0; have hb2 := nextB B0.out hb7; have hb9 := nextB B9.out hb7)
                  | (go_at_call 12; refine (K4.out _ (hI.out.next hb2) (hT.out.next hb2)).mono ?_; rintro e w8 ⟨rfl, hb8⟩; replace x0 := cellB hb8 x0; replace hb2 := nextB hb2 hb8; replace hb9 := nextB hb9 hb8))
                go_roundw
                case rel => exact ⟨k + 1, by omega, by go_num, by rw [hcs.out]; go_num, hb2, hb9⟩
                case measure => simp [intOf]; omega
              · rw [hB] at hcs hca K4
                simp only [Bool.true_eq_false, if_false] at hcs hca
                replace hcs := Lib.hid hcs
                replace K4 := Lib.hid K4
                by_cases hlK : qn k < K
                · have x0 := cellB B9 (hc.out (qn k) hlK)
                  have hfk := hca hlK
                  rw [Nat.zero_add] at x0
                  have hlKi : (qn k : Int) < (K : Int) := by omega
                  have hne : (((f (qn k) : Nat) : Int) == (k : Int)) = false := by rw [beq_eq_false_iff_ne]; omega
                  clear hca
                  replace hfk := Lib.hid hfk
                  replace B0 := Lib.hid B0
                  replace B9 := Lib.hid B9
                  generalize f (qn k) = fv at *
                  generalize qn k = qk at *
                  go_wp2_with (first
                    | (go_at_call 33; refine (P1.out _).mono ?_; rintro e w7 ⟨rfl, hb7⟩; replace x0 := cellB hb7 x0; have hb2 := nextB B0.out hb7; have hb9 := nextB B9.out hb7)
                    | (go_at_call 12; refine (K4.out _ (hI.out.next hb2) (hT.out.next hb2)).mono ?_; rintro e w8 ⟨rfl, hb8⟩; replace x0 := cellB hb8 x0; replace hb2 := nextB hb2 hb8; replace hb9 := nextB hb9 hb8))
                  go_roundw
                  case rel => exact ⟨k + 1, by omega, by go_num, by rw [hcs.out], hb2, hb9⟩
                  case measure => simp [intOf]; omega
                · have hlKi : ¬ ((qn k : Int) < (K : Int)) := by omega
                  clear hca
                  replace B0 := Lib.hid B0
                  replace B9 := Lib.hid B9
                  generalize qn k = qk at *
                  go_wp2_with (first
                    | (go_at_call 33; refine (P1.out _).mono ?_; rintro e w7 ⟨rfl, hb7⟩; have hb2 := nextB B0.out hb7; have hb9 := nextB B9.out hb7)
                    | (go_at_call 12; refine (K4.out _ (hI.out.next hb2) (hT.out.next hb2)).mono ?_; rintro e w8 ⟨rfl, hb8⟩; replace hb2 := nextB hb2 hb8; replace hb9 := nextB hb9 hb8))
                  go_roundw
                  case rel => exact ⟨k + 1, by omega, by go_num, by rw [hcs.out], hb2, hb9⟩
                  case measure => simp [intOf]; omega
            · have hkm : k = m := by omega
              rw [hkm, cm.out]
              clear hkm hlt hk
              go_wp2_with (first
                | (go_at_call 32; refine (WW.out _).mono ?_; rintro e w3 ⟨rfl, hb3⟩; replace B0 := nextB B0 hb3)
                | (go_at_call 12; (with_reducible refine (K2.out _ (hI.out.next B0) (hT.out.next B0)).mono ?_); rintro e w5 ⟨rfl, hb5⟩; replace B0 := nextB B0 hb5)
                | (go_at_call 34; refine (FR.out _).mono ?_; rintro e w5 ⟨rfl, rfl⟩)
                | (go_at_call 11; refine (hAl.out _ (hT.out.next B0)).mono ?_; rintro e w1 ⟨rfl, hb1⟩))
              go_ret
              exact Ret.mk rfl (nextB B0 hb1)
        · obtain rfl : K = 0 := by simpa using b1'
          clear b1'
          generalize pw m = pm at *
          go_enter Tryd.func7, Tryd.ntmps7
          go_wp2_with (first
            | (go_at_call 10; refine (hFw.out _).mono ?_; rintro e w1 ⟨rfl, rfl⟩)
            | (go_at_call 31; refine (RF.out _ hI.out).mono ?_; rintro e w2 ⟨rfl, hb2⟩)
            | (go_at_call 32; refine (WR.out _).mono ?_; rintro e w3 ⟨rfl, hb3⟩; replace hb2 := nextB hb2 hb3)
            | (go_at_call 24; refine (GU.out _ (hI.out.next hb2) (hT.out.next hb2)).mono ?_; rintro e w4 ⟨g, cap, rfl, hc, hb4⟩; replace hc := Lib.hid hc; replace hb2 := nextB hb2 hb4; have hb9 := Below.refl w4.heap.size w4)
            | (go_at_call 12; (with_reducible refine (K1.out _ (hI.out.next hb2) (hT.out.next hb2)).mono ?_); rintro e w5 ⟨rfl, hb5⟩; replace hb2 := nextB hb2 hb5; replace hb9 := nextB hb9 hb5)
            | (go_at_call 26; refine (ND.out _ (hI.out.next hb2) (hT.out.next hb2)).mono ?_; rintro e w6 ⟨rfl, hb6⟩; replace hb2 := nextB hb2 hb6; replace hb9 := nextB hb9 hb6))
          go_loopw [14, 15] (fun at' i wr => ∃ k : Nat, k ≤ m ∧ i = .int .i64 k ∧ at' = .int .i64 (qn k : Nat) ∧ Below w.heap.size w wr ∧ Below w4.heap.size w4 wr) (fun _ i _ => m - (intOf i).toNat)
          case atStart => exact ⟨0, by omega, rfl, by rw [c0.out]; rfl, hb2, hb9⟩
          case round =>
            clear hb2 hb9
            obtain ⟨k, hk, rfl, rfl, B0, B9⟩ := hrel
            by_cases hlt : k < m
            · have hki : (k : Int) < (m : Int) := by omega
              have K4 := K3.out k hlt
              have P1 := Lib.hid (PD.out k hlt)
              have hcs := cs.out k hlt
              have hca := ca.out k hlt
              have hcl := cl.out k
              cases hB : Bf k
              · rw [hB] at hca
                simp only [if_true] at hca
                exact absurd hca.1 (by omega)
              · rw [hB] at hcs hca K4
                simp only [Bool.true_eq_false, if_false] at hcs hca
                replace hcs := Lib.hid hcs
                replace K4 := Lib.hid K4
                have hlKi : ¬ ((qn k : Int) < 0) := by omega
                clear hca
                replace B0 := Lib.hid B0
                replace B9 := Lib.hid B9
                generalize qn k = qk at *
                go_wp2_with (first
                  | (go_at_call 33; refine (P1.out _).mono ?_; rintro e w7 ⟨rfl, hb7⟩; have hb2 := nextB B0.out hb7; have hb9 := nextB B9.out hb7)
                  | (go_at_call 12; refine (K4.out _ (hI.out.next hb2) (hT.out.next hb2)).mono ?_; rintro e w8 ⟨rfl, hb8⟩; replace hb2 := nextB hb2 hb8; replace hb9 := nextB hb9 hb8))
                go_roundw
                case rel => exact ⟨k + 1, by omega, by go_num, by rw [hcs.out], hb2, hb9⟩
                case measure => simp [intOf]; omega
            · have hkm : k = m := by omega
              rw [hkm, cm.out]
              clear hkm hlt hk
              go_wp2_with (first
                | (go_at_call 32; refine (WW.out _).mono ?_; rintro e w3 ⟨rfl, hb3⟩; replace B0 := nextB B0 hb3)
                | (go_at_call 12; (with_reducible refine (K2.out _ (hI.out.next B0) (hT.out.next B0)).mono ?_); rintro e w5 ⟨rfl, hb5⟩; replace B0 := nextB B0 hb5)
                | (go_at_call 34; refine (FR.out _).mono ?_; rintro e w5 ⟨rfl, rfl⟩)
                | (go_at_call 11; refine (hAl.out _ (hT.out.next B0)).mono ?_; rintro e w1 ⟨rfl, hb1⟩))
              go_ret
              exact Ret.mk rfl (nextB B0 hb1)
      · have hr0 : R.length ≠ 0 := by have := hn'.out; omega
        rw [if_neg hr0] at e5
        have e8 := e6 e5
        simp only [e5, e8] at ND
        replace ND := Lib.hid ND
        clear e5 e6 e7 e8 hr0
        have hn1 : ((n : Int) == 0) = false := by rw [beq_eq_false_iff_ne]; omega
        have hle1 : ¬ ((m : Int) < (nd : Int)) := by omega
        have hle2 : ¬ ((nd : Int) < 0) := by omega
        have hsub : IntKind.i64.wrap ((m : Int) - (dn : Int)) = (m : Int) - (dn : Int) := by
          have := dotN_le S1 m
          rw [hdn] at this
          exact IntWalk.i64_in _ (by omega)
        have hdn2 := Lib.hid hdn
        clear hdn
        cases A
        · have hK0 : 0 < K := by simpa using b1'
          have hK1 : (0 : Int) < (K : Int) := by omega
          have hnd0 : nd ≠ 0 := by simpa using b2'
          have hnd1 : ((nd : Int) == 0) = false := by rw [beq_eq_false_iff_ne]; omega
          clear b1' b2' hnd0
          generalize pw m = pm at *
          cases Xw
          · replace b3' := Lib.hid b3'
            go_enter Tryd.func7, Tryd.ntmps7
            go_wp2_with (first
              | (go_at_call 10; refine (hFw.out _).mono ?_; rintro e w1 ⟨rfl, rfl⟩)
              | (go_at_call 31; refine (RF.out _ hI.out).mono ?_; rintro e w2 ⟨rfl, hb2⟩)
              | (go_at_call 32; refine (WR.out _).mono ?_; rintro e w3 ⟨rfl, hb3⟩; replace hb2 := nextB hb2 hb3)
              | (go_at_call 24; refine (GU.out _ (hI.out.next hb2) (hT.out.next hb2)).mono ?_; rintro e w4 ⟨g, cap, rfl, hc, hb4⟩; replace hc := Lib.hid hc; replace hb2 := nextB hb2 hb4; have hb9 := Below.refl w4.heap.size w4)
              | (go_at_call 12; (with_reducible refine (K1.out _ (hI.out.next hb2) (hT.out.next hb2)).mono ?_); rintro e w5 ⟨rfl, hb5⟩; replace hb2 := nextB hb2 hb5; replace hb9 := nextB hb9 hb5)
              | (go_at_call 26; refine (ND.out _ (hI.out.next hb2) (hT.out.next hb2)).mono ?_; rintro e w6 ⟨rfl, hb6⟩; replace hb2 := nextB hb2 hb6; replace hb9 := nextB hb9 hb6))
            try simp only [hK1.out]
            go_loopw [14, 15] (fun at' i wr => ∃ k : Nat, k ≤ m ∧ i = .int .i64 k ∧ at' = .int .i64 (qn k : Nat) ∧ Below w.heap.size w wr ∧ Below w4.heap.size w4 wr) (fun _ i _ => m - (intOf i).toNat)
            case atStart => exact ⟨0, by omega, rfl, by rw [c0.out]; rfl, hb2, hb9⟩
            case round =>
              clear hb2 hb9
              obtain ⟨k, hk, rfl, rfl, B0, B9⟩ := hrel
              by_cases hlt : k < m
              · have hki : (k : Int) < (m : Int) := by omega
                have K4 := K3.out k hlt
                have P1 := Lib.hid (PD.out k hlt)
                have hcs := cs.out k hlt
                have hca := ca.out k hlt
                have hcl := cl.out k
                cases hB : Bf k
                · rw [hB] at hcs hca K4
                  simp only [if_true] at hcs hca
                  obtain ⟨hlK, hfk⟩ := hca
                  have x0 := cellB B9 (hc.out (qn k) hlK)
                  rw [hfk, Nat.zero_add] at x0
                  replace hfk := Lib.hid hfk
                  replace hcs := Lib.hid hcs
                  replace K4 := Lib.hid K4
                  replace B0 := Lib.hid B0
                  replace B9 := Lib.hid B9
                  have hlKi : (qn k : Int) < (K : Int) := by omega
                  generalize qn k = qk at *
                  go_wp2_with (first
                    | (go_at_call 33; refine (P1.out _).mono ?_; rintro e w7 ⟨rfl, hb7⟩; replace x0 := cellB hb7 x0; have hb2 := nextB B0.out hb7; have hb9 := nextB B9.out hb7)
                    | (go_at_call 12; refine (K4.out _ (hI.out.next hb2) (hT.out.next hb2)).mono ?_; rintro e w8 ⟨rfl, hb8⟩; replace x0 := cellB hb8 x0; replace hb2 := nextB hb2 hb8; replace hb9 := nextB hb9 hb8))
                  go_roundw
                  case rel => exact ⟨k + 1, by omega, by go_num, by rw [hcs.out]; go_num, hb2, hb9⟩
                  case measure => simp [intOf]; omega
                · rw [hB] at hcs hca K4
                  simp only [Bool.true_eq_false, if_false] at hcs hca
                  replace hcs := Lib.hid hcs
                  replace K4 := Lib.hid K4
                  by_cases hlK : qn k < K
                  · have x0 := cellB B9 (hc.out (qn k) hlK)
                    have hfk := hca hlK
                    rw [Nat.zero_add] at x0
                    have hlKi : (qn k : Int) < (K : Int) := by omega
                    have hne : (((f (qn k) : Nat) : Int) == (k : Int)) = false := by rw [beq_eq_false_iff_ne]; omega
                    clear hca
                    replace hfk := Lib.hid hfk
                    replace B0 := Lib.hid B0
                    replace B9 := Lib.hid B9
                    generalize f (qn k) = fv at *
                    generalize qn k = qk at *
                    go_wp2_with (first
                      | (go_at_call 33; refine (P1.out _).mono ?_; rintro e w7 ⟨rfl, hb7⟩; replace x0 := cellB hb7 x0; have hb2 := nextB B0.out hb7; have hb9 := nextB B9.out hb7)
                      | (go_at_call 12; refine (K4.out _ (hI.out.next hb2) (hT.out.next hb2)).mono ?_; rintro e w8 ⟨rfl, hb8⟩; replace x0 := cellB hb8 x0; replace hb2 := nextB hb2 hb8; replace hb9 := nextB hb9 hb8))
                    go_roundw
                    case rel => exact ⟨k + 1, by omega, by go_num, by rw [hcs.out], hb2, hb9⟩
                    case measure => simp [intOf]; omega
                  · have hlKi : ¬ ((qn k : Int) < (K : Int)) := by omega
                    clear hca
                    replace B0 := Lib.hid B0
                    replace B9 := Lib.hid B9
                    generalize qn k = qk at *
                    go_wp2_with (first
                      | (go_at_call 33; refine (P1.out _).mono ?_; rintro e w7 ⟨rfl, hb7⟩; have hb2 := nextB B0.out hb7; have hb9 := nextB B9.out hb7)
                      | (go_at_call 12; refine (K4.out _ (hI.out.next hb2) (hT.out.next hb2)).mono ?_; rintro e w8 ⟨rfl, hb8⟩; replace hb2 := nextB hb2 hb8; replace hb9 := nextB hb9 hb8))
                    go_roundw
                    case rel => exact ⟨k + 1, by omega, by go_num, by rw [hcs.out], hb2, hb9⟩
                    case measure => simp [intOf]; omega
              · have hkm : k = m := by omega
                rw [hkm, cm.out]
                clear hkm hlt hk
                go_wp2_with (first
                  | (go_at_call 32; refine (WW.out _).mono ?_; rintro e w3 ⟨rfl, hb3⟩; replace B0 := nextB B0 hb3)
                  | (go_at_call 12; (with_reducible refine (K2.out _ (hI.out.next B0) (hT.out.next B0)).mono ?_); rintro e w5 ⟨rfl, hb5⟩; replace B0 := nextB B0 hb5)
                  | (go_at_call 34; refine (FR.out _).mono ?_; rintro e w5 ⟨rfl, rfl⟩)
                  | (go_at_call 11; refine (hAl.out _ (hT.out.next B0)).mono ?_; rintro e w1 ⟨rfl, hb1⟩))
                go_ret
                exact Ret.mk rfl (nextB B0 hb1)
          · have b4 := b3' rfl
            have b5 : (nd : Int) ≤ (m : Int) - (dn : Int) := by omega
            clear b3' b4
            go_enter Tryd.func7, Tryd.ntmps7
            go_wp2_with (first
              | (go_at_call 10; refine (hFw.out _).mono ?_; rintro e w1 ⟨rfl, rfl⟩)
              | (go_at_call 31; refine (RF.out _ hI.out).mono ?_; rintro e w2 ⟨rfl, hb2⟩)
              | (go_at_call 32; refine (WR.out _).mono ?_; rintro e w3 ⟨rfl, hb3⟩; replace hb2 := nextB hb2 hb3)
              | (go_at_call 24; refine (GU.out _ (hI.out.next hb2) (hT.out.next hb2)).mono ?_; rintro e w4 ⟨g, cap, rfl, hc, hb4⟩; replace hc := Lib.hid hc; replace hb2 := nextB hb2 hb4; have hb9 := Below.refl w4.heap.size w4)
              | (go_at_call 12; (with_reducible refine (K1.out _ (hI.out.next hb2) (hT.out.next hb2)).mono ?_); rintro e w5 ⟨rfl, hb5⟩; replace hb2 := nextB hb2 hb5; replace hb9 := nextB hb9 hb5)
              | (go_at_call 26; refine (ND.out _ (hI.out.next hb2) (hT.out.next hb2)).mono ?_; rintro e w6 ⟨rfl, hb6⟩; replace hb2 := nextB hb2 hb6; replace hb9 := nextB hb9 hb6))
            try simp only [hK1.out]
            go_loopw [14, 15] (fun at' i wr => ∃ k : Nat, k ≤ m ∧ i = .int .i64 k ∧ at' = .int .i64 (qn k : Nat) ∧ Below w.heap.size w wr ∧ Below w4.heap.size w4 wr) (fun _ i _ => m - (intOf i).toNat)
            case atStart => exact ⟨0, by omega, rfl, by rw [c0.out]; rfl, hb2, hb9⟩
            case round =>
              clear hb2 hb9
              obtain ⟨k, hk, rfl, rfl, B0, B9⟩ := hrel
              by_cases hlt : k < m
              · have hki : (k : Int) < (m : Int) := by omega
                have K4 := K3.out k hlt
                have P1 := Lib.hid (PD.out k hlt)
                have hcs := cs.out k hlt
                have hca := ca.out k hlt
                have hcl := cl.out k
                cases hB : Bf k
                · rw [hB] at hcs hca K4
                  simp only [if_true] at hcs hca
                  obtain ⟨hlK, hfk⟩ := hca
                  have x0 := cellB B9 (hc.out (qn k) hlK)
                  rw [hfk, Nat.zero_add] at x0
                  replace hfk := Lib.hid hfk
                  replace hcs := Lib.hid hcs
                  replace K4 := Lib.hid K4
                  replace B0 := Lib.hid B0
                  replace B9 := Lib.hid B9
                  have hlKi : (qn k : Int) < (K : Int) := by omega
                  generalize qn k = qk at *
                  go_wp2_with (first
                    | (go_at_call 33; refine (P1.out _).mono ?_; rintro e w7 ⟨rfl, hb7⟩; replace x0 := cellB hb7 x0; have hb2 := nextB B0.out hb7; have hb9 := nextB B9.out hb7)
                    | (go_at_call 12; refine (K4.out _ (hI.out.next hb2) (hT.out.next hb2)).mono ?_; rintro e w8 ⟨rfl, hb8⟩; replace x0 := cellB hb8 x0; replace hb2 := nextB hb2 hb8; replace hb9 := nextB hb9 hb8))
                  go_roundw
                  case rel => exact ⟨k + 1, by omega, by go_num, by rw [hcs.out]; go_num, hb2, hb9⟩
                  case measure => simp [intOf]; omega
                · rw [hB] at hcs hca K4
                  simp only [Bool.true_eq_false, if_false] at hcs hca
                  replace hcs := Lib.hid hcs
                  replace K4 := Lib.hid K4
                  by_cases hlK : qn k < K
                  · have x0 := cellB B9 (hc.out (qn k) hlK)
                    have hfk := hca hlK
                    rw [Nat.zero_add] at x0
                    have hlKi : (qn k : Int) < (K : Int) := by omega
                    have hne : (((f (qn k) : Nat) : Int) == (k : Int)) = false := by rw [beq_eq_false_iff_ne]; omega
                    clear hca
                    replace hfk := Lib.hid hfk
                    replace B0 := Lib.hid B0
                    replace B9 := Lib.hid B9
                    generalize f (qn k) = fv at *
                    generalize qn k = qk at *
                    go_wp2_with (first
                      | (go_at_call 33; refine (P1.out _).mono ?_; rintro e w7 ⟨rfl, hb7⟩; replace x0 := cellB hb7 x0; have hb2 := nextB B0.out hb7; have hb9 := nextB B9.out hb7)
                      | (go_at_call 12; refine (K4.out _ (hI.out.next hb2) (hT.out.next hb2)).mono ?_; rintro e w8 ⟨rfl, hb8⟩; replace x0 := cellB hb8 x0; replace hb2 := nextB hb2 hb8; replace hb9 := nextB hb9 hb8))
                    go_roundw
                    case rel => exact ⟨k + 1, by omega, by go_num, by rw [hcs.out], hb2, hb9⟩
                    case measure => simp [intOf]; omega
                  · have hlKi : ¬ ((qn k : Int) < (K : Int)) := by omega
                    clear hca
                    replace B0 := Lib.hid B0
                    replace B9 := Lib.hid B9
                    generalize qn k = qk at *
                    go_wp2_with (first
                      | (go_at_call 33; refine (P1.out _).mono ?_; rintro e w7 ⟨rfl, hb7⟩; have hb2 := nextB B0.out hb7; have hb9 := nextB B9.out hb7)
                      | (go_at_call 12; refine (K4.out _ (hI.out.next hb2) (hT.out.next hb2)).mono ?_; rintro e w8 ⟨rfl, hb8⟩; replace hb2 := nextB hb2 hb8; replace hb9 := nextB hb9 hb8))
                    go_roundw
                    case rel => exact ⟨k + 1, by omega, by go_num, by rw [hcs.out], hb2, hb9⟩
                    case measure => simp [intOf]; omega
              · have hkm : k = m := by omega
                rw [hkm, cm.out]
                clear hkm hlt hk
                go_wp2_with (first
                  | (go_at_call 32; refine (WW.out _).mono ?_; rintro e w3 ⟨rfl, hb3⟩; replace B0 := nextB B0 hb3)
                  | (go_at_call 12; (with_reducible refine (K2.out _ (hI.out.next B0) (hT.out.next B0)).mono ?_); rintro e w5 ⟨rfl, hb5⟩; replace B0 := nextB B0 hb5)
                  | (go_at_call 34; refine (FR.out _).mono ?_; rintro e w5 ⟨rfl, rfl⟩)
                  | (go_at_call 11; refine (hAl.out _ (hT.out.next B0)).mono ?_; rintro e w1 ⟨rfl, hb1⟩))
                go_ret
                exact Ret.mk rfl (nextB B0 hb1)
        · obtain rfl : K = 0 := by simpa using b1'
          have hnd0 : nd = 0 := by simpa using b2'
          subst hnd0
          clear b1' b2'
          generalize pw m = pm at *
          cases Xw
          · replace b3' := Lib.hid b3'
            go_enter Tryd.func7, Tryd.ntmps7
            go_wp2_with (first
              | (go_at_call 10; refine (hFw.out _).mono ?_; rintro e w1 ⟨rfl, rfl⟩)
              | (go_at_call 31; refine (RF.out _ hI.out).mono ?_; rintro e w2 ⟨rfl, hb2⟩)
              | (go_at_call 32; refine (WR.out _).mono ?_; rintro e w3 ⟨rfl, hb3⟩; replace hb2 := nextB hb2 hb3)
              | (go_at_call 24; refine (GU.out _ (hI.out.next hb2) (hT.out.next hb2)).mono ?_; rintro e w4 ⟨g, cap, rfl, hc, hb4⟩; replace hc := Lib.hid hc; replace hb2 := nextB hb2 hb4; have hb9 := Below.refl w4.heap.size w4)
              | (go_at_call 12; (with_reducible refine (K1.out _ (hI.out.next hb2) (hT.out.next hb2)).mono ?_); rintro e w5 ⟨rfl, hb5⟩; replace hb2 := nextB hb2 hb5; replace hb9 := nextB hb9 hb5)
              | (go_at_call 26; refine (ND.out _ (hI.out.next hb2) (hT.out.next hb2)).mono ?_; rintro e w6 ⟨rfl, hb6⟩; replace hb2 := nextB hb2 hb6; replace hb9 := nextB hb9 hb6))
            go_loopw [14, 15] (fun at' i wr => ∃ k : Nat, k ≤ m ∧ i = .int .i64 k ∧ at' = .int .i64 (qn k : Nat) ∧ Below w.heap.size w wr ∧ Below w4.heap.size w4 wr) (fun _ i _ => m - (intOf i).toNat)
            case atStart => exact ⟨0, by omega, rfl, by rw [c0.out]; rfl, hb2, hb9⟩
            case round =>
              clear hb2 hb9
              obtain ⟨k, hk, rfl, rfl, B0, B9⟩ := hrel
              by_cases hlt : k < m
              · have hki : (k : Int) < (m : Int) := by omega
                have K4 := K3.out k hlt
                have P1 := Lib.hid (PD.out k hlt)
                have hcs := cs.out k hlt
                have hca := ca.out k hlt
                have hcl := cl.out k
                cases hB : Bf k
                · rw [hB] at hca
                  simp only [if_true] at hca
                  exact absurd hca.1 (by omega)
                · rw [hB] at hcs hca K4
                  simp only [Bool.true_eq_false, if_false] at hcs hca
                  replace hcs := Lib.hid hcs
                  replace K4 := Lib.hid K4
                  have hlKi : ¬ ((qn k : Int) < 0) := by omega
                  clear hca
                  replace B0 := Lib.hid B0
                  replace B9 := Lib.hid B9
                  generalize qn k = qk at *
                  go_wp2_with (first
                    | (go_at_call 33; refine (P1.out _).mono ?_; rintro e w7 ⟨rfl, hb7⟩; have hb2 := nextB B0.out hb7; have hb9 := nextB B9.out hb7)
                    | (go_at_call 12; refine (K4.out _ (hI.out.next hb2) (hT.out.next hb2)).mono ?_; rintro e w8 ⟨rfl, hb8⟩; replace hb2 := nextB hb2 hb8; replace hb9 := nextB hb9 hb8))
                  go_roundw
                  case rel => exact ⟨k + 1, by omega, by go_num, by rw [hcs.out], hb2, hb9⟩
                  case measure => simp [intOf]; omega
              · have hkm : k = m := by omega
                rw [hkm, cm.out]
                clear hkm hlt hk
                go_wp2_with (first
                  | (go_at_call 32; refine (WW.out _).mono ?_; rintro e w3 ⟨rfl, hb3⟩; replace B0 := nextB B0 hb3)
                  | (go_at_call 12; (with_reducible refine (K2.out _ (hI.out.next B0) (hT.out.next B0)).mono ?_); rintro e w5 ⟨rfl, hb5⟩; replace B0 := nextB B0 hb5)
                  | (go_at_call 34; refine (FR.out _).mono ?_; rintro e w5 ⟨rfl, rfl⟩)
                  | (go_at_call 11; refine (hAl.out _ (hT.out.next B0)).mono ?_; rintro e w1 ⟨rfl, hb1⟩))
                go_ret
                exact Ret.mk rfl (nextB B0 hb1)
          · have b4 := b3' rfl
            have b5 : (0 : Int) ≤ (m : Int) - (dn : Int) := by omega
            clear b3' b4
            go_enter Tryd.func7, Tryd.ntmps7
            go_wp2_with (first
              | (go_at_call 10; refine (hFw.out _).mono ?_; rintro e w1 ⟨rfl, rfl⟩)
              | (go_at_call 31; refine (RF.out _ hI.out).mono ?_; rintro e w2 ⟨rfl, hb2⟩)
              | (go_at_call 32; refine (WR.out _).mono ?_; rintro e w3 ⟨rfl, hb3⟩; replace hb2 := nextB hb2 hb3)
              | (go_at_call 24; refine (GU.out _ (hI.out.next hb2) (hT.out.next hb2)).mono ?_; rintro e w4 ⟨g, cap, rfl, hc, hb4⟩; replace hc := Lib.hid hc; replace hb2 := nextB hb2 hb4; have hb9 := Below.refl w4.heap.size w4)
              | (go_at_call 12; (with_reducible refine (K1.out _ (hI.out.next hb2) (hT.out.next hb2)).mono ?_); rintro e w5 ⟨rfl, hb5⟩; replace hb2 := nextB hb2 hb5; replace hb9 := nextB hb9 hb5)
              | (go_at_call 26; refine (ND.out _ (hI.out.next hb2) (hT.out.next hb2)).mono ?_; rintro e w6 ⟨rfl, hb6⟩; replace hb2 := nextB hb2 hb6; replace hb9 := nextB hb9 hb6))
            go_loopw [14, 15] (fun at' i wr => ∃ k : Nat, k ≤ m ∧ i = .int .i64 k ∧ at' = .int .i64 (qn k : Nat) ∧ Below w.heap.size w wr ∧ Below w4.heap.size w4 wr) (fun _ i _ => m - (intOf i).toNat)
            case atStart => exact ⟨0, by omega, rfl, by rw [c0.out]; rfl, hb2, hb9⟩
            case round =>
              clear hb2 hb9
              obtain ⟨k, hk, rfl, rfl, B0, B9⟩ := hrel
              by_cases hlt : k < m
              · have hki : (k : Int) < (m : Int) := by omega
                have K4 := K3.out k hlt
                have P1 := Lib.hid (PD.out k hlt)
                have hcs := cs.out k hlt
                have hca := ca.out k hlt
                have hcl := cl.out k
                cases hB : Bf k
                · rw [hB] at hca
                  simp only [if_true] at hca
                  exact absurd hca.1 (by omega)
                · rw [hB] at hcs hca K4
                  simp only [Bool.true_eq_false, if_false] at hcs hca
                  replace hcs := Lib.hid hcs
                  replace K4 := Lib.hid K4
                  have hlKi : ¬ ((qn k : Int) < 0) := by omega
                  clear hca
                  replace B0 := Lib.hid B0
                  replace B9 := Lib.hid B9
                  generalize qn k = qk at *
                  go_wp2_with (first
                    | (go_at_call 33; refine (P1.out _).mono ?_; rintro e w7 ⟨rfl, hb7⟩; have hb2 := nextB B0.out hb7; have hb9 := nextB B9.out hb7)
                    | (go_at_call 12; refine (K4.out _ (hI.out.next hb2) (hT.out.next hb2)).mono ?_; rintro e w8 ⟨rfl, hb8⟩; replace hb2 := nextB hb2 hb8; replace hb9 := nextB hb9 hb8))
                  go_roundw
                  case rel => exact ⟨k + 1, by omega, by go_num, by rw [hcs.out], hb2, hb9⟩
                  case measure => simp [intOf]; omega
              · have hkm : k = m := by omega
                rw [hkm, cm.out]
                clear hkm hlt hk
                go_wp2_with (first
                  | (go_at_call 32; refine (WW.out _).mono ?_; rintro e w3 ⟨rfl, hb3⟩; replace B0 := nextB B0 hb3)
                  | (go_at_call 12; (with_reducible refine (K2.out _ (hI.out.next B0) (hT.out.next B0)).mono ?_); rintro e w5 ⟨rfl, hb5⟩; replace B0 := nextB B0 hb5)
                  | (go_at_call 34; refine (FR.out _).mono ?_; rintro e w5 ⟨rfl, rfl⟩)
                  | (go_at_call 11; refine (hAl.out _ (hT.out.next B0)).mono ?_; rintro e w1 ⟨rfl, hb1⟩))
                go_ret
                exact Ret.mk rfl (nextB B0 hb1)
    · have d1 : ((e : Int) != 0) = true := by rw [bne_iff_ne]; omega
      clear q1
      go_enter Tryd.func7, Tryd.ntmps7
      go_wp2_with (first
        | (go_at_call 10; refine (hFw.out _).mono ?_; rintro e w1 ⟨rfl, rfl⟩)
        | (go_at_call 31; refine (RF.out _ hI.out).mono ?_; rintro e w2 ⟨rfl, hb2⟩)
        | (go_at_call 11; refine (hAl.out _ (hT.out.next hb2)).mono ?_; rintro e w1 ⟨rfl, hb1⟩))
      go_ret
      exact Ret.mk rfl (nextB hb2 hb1)
  · rw [decide_eq_false q1] at hFw
    replace hFw := Lib.hid hFw
    clear q1
    go_enter Tryd.func7, Tryd.ntmps7
    go_wp2_with (first
      | (go_at_call 10; refine (hFw.out _).mono ?_; rintro e w1 ⟨rfl, rfl⟩)
      | (go_at_call 11; refine (hAl.out _ hT.out).mono ?_; rintro e w1 ⟨rfl, hb1⟩))
    go_ret
    exact Ret.mk rfl hb1
end Go.Proofs.YtbdhceolchhnjaaDoor
