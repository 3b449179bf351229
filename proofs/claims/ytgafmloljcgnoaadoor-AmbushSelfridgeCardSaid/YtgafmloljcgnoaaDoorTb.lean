/- Layer 4: AmbushSelfridge returns true, and changes nothing. -/
import Derived.Test.YtgafmloljcgnoaaDoorTa
namespace Go.Proofs.YtgafmloljcgnoaaDoor
open Go Go.RowKit

set_option maxRecDepth 100000 in
set_option maxHeartbeats 8000000 in
theorem selfridge_any (x : Int) (a : Option Addr) (n c : Nat) (R : List Int) (s : ByteArray) (wolves : Bool) (a4 : Option Addr) (n4 c4 : Nat) (w : World) (h : Ints w a R) (hn : R.length = n) (_hnc : n ≤ c) (_hnil : a = none → c = 0) (hM : Bys w a4 n4) (hT : Tab w) :
    Calls Tryd.prog 7 #[.int .i64 x, .slice a n c, .string s, .bool wolves, .slice a4 n4 c4] w (Ret (.bool true) w) := by
  have hAl := Lib.hid (fun W hW => alive_any W hW)
  have hFw := Lib.hid (fun W => few_any n c a s strE W)
  replace hT := Lib.hid hT
  replace hM := Lib.hid hM
  cases hf : decide (n ≤ 40) && decide (s.size ≤ 40)
  · have hf2 : (decide (n ≤ 40) && decide (s.size ≤ 40) && decide (strE.size ≤ 40)) = false := by rw [hf]; rfl
    rw [hf2] at hFw
    clear hn
    go_enter Tryd.func7, Tryd.ntmps7
    go_wp2_with (first
      | (go_at_call 15; refine (hFw.out _).mono ?_; rintro e w1 ⟨rfl, rfl⟩)
      | (go_at_call 16; refine (hAl.out _ hT.out).mono ?_; rintro e w1 ⟨rfl, hb1⟩))
    go_ret
    exact Ret.mk rfl hb1
  · have hf2 : (decide (n ≤ 40) && decide (s.size ≤ 40) && decide (strE.size ≤ 40)) = true := by rw [hf]; rfl
    rw [hf2] at hFw
    by_cases h40 : 40 < n4
    · have h40i : (40 : Int) < (n4 : Int) := by omega
      clear hn
      go_enter Tryd.func7, Tryd.ntmps7
      go_wp2_with (first
        | (go_at_call 15; refine (hFw.out _).mono ?_; rintro e w1 ⟨rfl, rfl⟩)
        | (go_at_call 16; refine (hAl.out _ hT.out).mono ?_; rintro e w1 ⟨rfl, hb1⟩))
      go_ret
      exact Ret.mk rfl hb1
    · have h40i : ¬ ((40 : Int) < (n4 : Int)) := by omega
      have D1 := Lib.hid (fun W hW => Danger_any x a n c R s W hW hn)
      have hI := Lib.hid h
      have hn' := Lib.hid hn
      obtain ⟨e, he⟩ : ∃ e, Hid (pE x R s = e) := ⟨_, Lib.hid rfl⟩
      have he6 : e < 6 := by rw [← he.out]; exact pE_lt x R s
      rw [he.out] at D1
      clear hf hf2 h hn
      by_cases h1 : e = 0
      · subst h1
        obtain ⟨hx, hF, hs, hok⟩ := pE_ok he.out
        obtain ⟨m, hm⟩ : ∃ m, x.toNat = m := ⟨_, rfl⟩
        have hdd : Hid (dngI x R s = dngL m R (psB s 119 m) (psB s 100 m)) := Lib.hid (by unfold dngI; rw [if_pos he.out, hm])
        rw [hm] at hx hF hs
        subst hx
        have hm1 := hF.pos
        have hm9 := hF.le
        have hm1i : ¬ ((m : Int) < 1) := by omega
        have hm1j : (1 : Int) ≤ (m : Int) := by omega
        have hm9i : (m : Int) ≤ 9 := by omega
        have hm9j : ¬ ((9 : Int) < (m : Int)) := by omega
        have sh := wrap_shl (k := m) (by omega)
        have hmin : min m 64 = m := by omega
        obtain ⟨m1, hmm⟩ : ∃ m1, m = m1 + 1 := ⟨m - 1, by omega⟩
        have hp2 : pw m = 2 * pw m1 := by rw [hmm, pw_succ]
        have sh1 := wrap_shl (k := m1) (by omega)
        have hmin1 : min m1 64 = m1 := by omega
        have hsu : IntKind.i64.wrap ((m : Int) - 1) = ((m1 : Nat) : Int) := by rw [IntWalk.i64_in _ (by omega)]; omega
        have hsu2 : (m : Int) - 1 = ((m1 : Nat) : Int) := by omega
        have SW : Hid (∀ nx, (2 * dngL m R (psB s 119 m) (psB s 100 m) < pw m ∨ nx = true ∧ dngL m R (psB s 119 m) (psB s 100 m) < pw m) → SafS m R s nx) := Lib.hid (fun nx h => ⟨hs, hok, safe_start nx h⟩)
        have WN : Hid (∀ (s' t : ByteArray) (nx : Bool), s'.size = m → okS s' = true → isSide t = true → win m R (psB s' 119 m) (psB s' 100 m) (sideN t == 1) = false → ∀ W, Ints W a R → Tab W → Calls Tryd.prog 17 #[.int .i64 (m : Nat), .slice a n c, .string s', .string t] W (Ret (.tuple #[.string (ltr 1), .int .i64 0]) W)) := Lib.hid (fun s' t nx h1 h2 h3 h4 W hW hTW => by
          have tn := tE_pos (pE_pos hF h1 h2) h3
          have := Winner_any (m : Int) a n c R s' t W hW hn'.out hTW
          rw [winS_pos tn, tn, h4] at this
          exact this)
        have CA : Hid (∀ (s' : ByteArray), s'.size = m → okS s' = true → frL m (psB s' 119 m) (psB s' 100 m) ≠ [] → ∀ W, Ints W a R → Tab W → Calls Tryd.prog 24 #[.int .i64 (m : Nat), .slice a n c, .string s'] W (Ret (.tuple #[.int .i64 (mnL (dgT m R (psB s' 119 m) (psB s' 100 m)) (frL m (psB s' 119 m) (psB s' 100 m)) : Nat), .int .i64 0]) W)) := Lib.hid (fun s' h1 h2 h3 W hW hTW => by
          have h5 := pE_pos hF h1 h2
          have h6 : caE (m : Int) R s' = 0 := by unfold caE; rw [if_pos h5]; exact if_neg h3
          have h7 : caI (m : Int) R s' = mnL (dgT m R (psB s' 119 m) (psB s' 100 m)) (frL m (psB s' 119 m) (psB s' 100 m)) := by unfold caI; rw [if_pos h6]; rfl
          have := Careful_any (m : Int) a n c R s' W hW hn'.out hTW
          rw [h6, h7] at this
          exact this)
        have FR := Lib.hid (fun (s' : ByteArray) (hs' : s'.size = m) W => free_any s' m hs' (by omega) W)
        have CH := Lib.hid (fun (s' : ByteArray) (hs' : s'.size = m) by' (hb : by' ≤ 255) (h0 : dotN s' m ≠ 0) W => chosen_any s' m hs' (by omega) by' hb h0 W)
        have PW := Lib.hid (fun (s' : ByteArray) k (hk : k < s'.size) W => (show Calls Tryd.prog 40 #[.string s', .int .i64 (k : Nat), .int .u8 119] W (Ret (.string (setS s' k 119)) W) from placed_any s' k 119 hk (by omega) W))
        have PD := Lib.hid (fun (s' : ByteArray) k (hk : k < s'.size) W => (show Calls Tryd.prog 40 #[.string s', .int .i64 (k : Nat), .int .u8 100] W (Ret (.string (setS s' k 100)) W) from placed_any s' k 100 hk (by omega) W))
        have l1 : (ltr 1).toList = [100] := ltr_list false
        have hFF := Lib.hid hF
        have hdl := dotN_le s m
        rw [hdd.out] at D1
        generalize hD : dngL m R (psB s 119 m) (psB s 100 m) = D at *
        clear hF hm hmm hD hdd
        by_cases hg : (if wolves then pw m1 ≤ D else pw m ≤ D)
        · cases wolves
          · simp only [Bool.false_eq_true, if_false] at hg
            have g1 : ((pw m : Nat) : Int) ≤ (D : Int) := by omega
            generalize pw m = pm at *
            generalize pw m1 = pm1 at *
            go_enter Tryd.func7, Tryd.ntmps7
            go_wp2_with (first
              | (go_at_call 15; refine (hFw.out _).mono ?_; rintro e w1 ⟨rfl, rfl⟩)
              | (go_at_call 22; refine (D1.out _ hI.out).mono ?_; rintro e w2 ⟨rfl, hb2⟩)
              | (go_at_call 16; refine (hAl.out _ (hT.out.next hb2)).mono ?_; rintro e w6 ⟨rfl, hb6⟩))
            go_ret
            exact Ret.mk rfl (nextB hb2 hb6)
          · simp only [if_true] at hg
            have g1 : ((pw m1 : Nat) : Int) ≤ (D : Int) := by omega
            generalize pw m = pm at *
            generalize pw m1 = pm1 at *
            go_enter Tryd.func7, Tryd.ntmps7
            go_wp2_with (first
              | (go_at_call 15; refine (hFw.out _).mono ?_; rintro e w1 ⟨rfl, rfl⟩)
              | (go_at_call 22; refine (D1.out _ hI.out).mono ?_; rintro e w2 ⟨rfl, hb2⟩)
              | (go_at_call 16; refine (hAl.out _ (hT.out.next hb2)).mono ?_; rintro e w6 ⟨rfl, hb6⟩))
            go_ret
            exact Ret.mk rfl (nextB hb2 hb6)
        · have hS := SW.out (!wolves) (by cases wolves <;> simp at hg ⊢ <;> omega)
          cases wolves
          · have K1 := WN.out s strD true hS.size hS.ok isSide_D (by rw [sideN_D]; exact hS.wn)
            unfold strD at K1
            replace K1 := Lib.hid K1
            have g1 : ¬ (((pw m : Nat) : Int) ≤ (D : Int)) := by simp at hg; omega
            replace hS := Lib.hid hS
            clear hg
            generalize ltr 1 = L1 at *
            generalize pw m = pm at *
            generalize pw m1 = pm1 at *
            clear hok hs
            replace hp2 := Lib.hid hp2
            go_enter Tryd.func7, Tryd.ntmps7
            go_wp2_with (first
              | (go_at_call 15; refine (hFw.out _).mono ?_; rintro e w1 ⟨rfl, rfl⟩)
              | (go_at_call 22; refine (D1.out _ hI.out).mono ?_; rintro e w2 ⟨rfl, hb2⟩)
              | (go_at_call 17; refine (K1.out _ (hI.out.next hb2) (hT.out.next hb2)).mono ?_; rintro e w3 ⟨rfl, hb3⟩; replace hb2 := nextB hb2 hb3))
            go_loopw [3, 15, 16] (fun v3 p i wr => ∃ (b : Bool) (s' : ByteArray) (k : Nat), v3 = .bool b ∧ p = .string s' ∧ i = .int .i64 k ∧ k + dotN s' m ≤ 40 ∧ SafS m R s' (!b) ∧ Below w.heap.size w wr) (fun _ p _ _ => dotN (strOf p) m)
            case atStart => exact ⟨_, s, 0, rfl, rfl, rfl, by omega, hS.out, hb2⟩
            case round =>
              obtain ⟨b, s', k, rfl, rfl, rfl, hk, hS', B0⟩ := hrel
              have hs' := hS'.size
              have hszI : (s'.size : Int) = (m : Int) := by omega
              have F1 := Lib.hid (FR.out s' hs')
              have hsd : Hid (strOf (.string s') = s') := Lib.hid rfl
              obtain ⟨d, hd⟩ : ∃ d, Hid (dotN s' m = d) := ⟨_, Lib.hid rfl⟩
              rw [hd.out] at F1 hk
              by_cases hz : d = 0
              · subst hz
                have K2 := WN.out s' strD true hS'.size hS'.ok isSide_D (hS'.full hd.out _)
                unfold strD at K2
                replace K2 := Lib.hid K2
                replace hS' := Lib.hid hS'
                replace B0 := Lib.hid B0
                clear hk
                go_wp2_with (first
                  | (go_at_call 39; refine (F1.out _).mono ?_; rintro e w4 ⟨rfl, rfl⟩)
                  | (go_at_call 17; (with_reducible refine (K2.out _ (hI.out.next B0.out) (hT.out.next B0.out)).mono ?_); rintro e w5 ⟨rfl, hb5⟩; have hb6 := nextB B0.out hb5)
                  | (go_at_call 16; refine (hAl.out _ (hT.out.next hb6)).mono ?_; rintro e w7 ⟨rfl, hb7⟩))
                go_ret
                exact Ret.mk rfl (nextB hb6 hb7)
              · have hdp : (0 : Int) < (d : Int) := by omega
                have hdn : dotN s' m ≠ 0 := by rw [hd.out]; exact hz
                have hst : Hid (∀ i, i < m → bytA s' i = 46 → ∀ q, q < 256 → q ≠ 46 → dotN (setS s' i q) m + 1 = dotN s' m) := Lib.hid (fun i hi h46 q hq1 hq => by
                  have := dotN_set (s := s') (k := i) (b := q) (by omega) h46 hq1 hq m
                  rwa [if_pos hi] at this)
                cases b
                · obtain ⟨ci, hci, hcm, hc46, hSd⟩ := SafS.dog hS' hFF.out (free_pos hS'.size hS'.ok hdn)
                  have C1 := CA.out s' hS'.size hS'.ok (free_pos hS'.size hS'.ok hdn)
                  rw [hci] at C1
                  replace C1 := Lib.hid C1
                  have P1 := Lib.hid (PD.out s' ci (by omega))
                  replace hci := Lib.hid hci
                  replace hS' := Lib.hid hS'
                  replace hSd := Lib.hid hSd
                  have hks : ci < s'.size := by omega
                  have hbk : (s'[ci]'hks).toNat = 46 := by unfold bytA at hc46; rw [dif_pos hks] at hc46; exact hc46
                  have hkI : (ci : Int) < (m : Int) := by omega
                  have hk00 : ¬ ((ci : Int) < 0) := by omega
                  have hk01 : ¬ ((m : Int) ≤ (ci : Int)) := by omega
                  replace hc46 := Lib.hid hc46
                  replace hdn := Lib.hid hdn
                  replace B0 := Lib.hid B0
                  go_wp2_with (first
                    | (go_at_call 39; refine (F1.out _).mono ?_; rintro e w4 ⟨rfl, rfl⟩)
                    | (go_at_call 24; refine (C1.out _ (hI.out.next B0.out) (hT.out.next B0.out)).mono ?_; rintro e w5 ⟨rfl, hb5⟩)
                    | (go_at_call 40; refine (P1.out _).mono ?_; rintro e w6 ⟨rfl, hb6⟩))
                  go_roundw
                  case rel =>
                    have h7 := hst.out ci hcm hc46.out 100 (by omega) (by omega)
                    have h8 := hd.out
                    exact ⟨true, _, k, rfl, rfl, rfl, by omega, hSd.out, nextB (nextB B0.out hb5) hb6⟩
                  case measure =>
                    have h7 := hst.out ci hcm hc46.out 100 (by omega) (by omega)
                    show dotN (setS s' ci 100) m < dotN s' m
                    omega
                · have C1 := Lib.hid (fun by' hb => CH.out s' hs' by' hb hdn)
                  have P1 := Lib.hid (PW.out s')
                  have SS := Lib.hid (fun i hi hd => SafS.wolf (k := i) hS' hFF.out hi hd)
                  replace hS' := Lib.hid hS'
                  by_cases hmv : k < n4
                  · have hmvI : (k : Int) < (n4 : Int) := by omega
                    obtain ⟨bb, off, rfl, hcc⟩ : ∃ b off, a4 = some ⟨b, off, none⟩ ∧ ∀ i, i < n4 → ∃ v : Nat, v ≤ 255 ∧ wr.cell? ⟨b, off + i, none⟩ = some (.int .u8 (v : Nat)) := by
                      rcases hM.out.next B0 with h | h
                      · omega
                      · exact h
                    obtain ⟨mv, hmv8, x0⟩ := hcc k hmv
                    clear hcc
                    replace B0 := Lib.hid B0
                    have hcv : IntKind.i64.wrap (mv : Int) = (mv : Int) := IntWalk.i64_in _ (by omega)
                    replace hdn := Lib.hid hdn
                    go_wp2_with (first
                      | (go_at_call 39; refine (F1.out _).mono ?_; rintro e w4 ⟨rfl, rfl⟩)
                      | (go_at_call 41; refine (C1.out mv hmv8 _).mono ?_; rintro e w5 ⟨ck, rfl, hck, hcd, rfl⟩)
                      | (go_at_call 40; refine (P1.out ck (by omega) _).mono ?_; rintro e w6 ⟨rfl, hb6⟩))
                    go_roundw
                    case rel =>
                      have h7 := hst.out ck hck hcd 119 (by omega) (by omega)
                      have h8 := hd.out
                      exact ⟨false, _, k + 1, rfl, rfl, by go_num, by omega, SS.out ck hck hcd, nextB B0.out hb6⟩
                    case measure =>
                      have h7 := hst.out ck hck hcd 119 (by omega) (by omega)
                      show dotN (setS s' ck 119) m < dotN s' m
                      omega
                  · have hmvI : ¬ ((k : Int) < (n4 : Int)) := by omega
                    replace B0 := Lib.hid B0
                    replace hdn := Lib.hid hdn
                    go_wp2_with (first
                      | (go_at_call 39; refine (F1.out _).mono ?_; rintro e w4 ⟨rfl, rfl⟩)
                      | (go_at_call 41; refine (C1.out 0 (by omega) _).mono ?_; rintro e w5 ⟨ck, rfl, hck, hcd, rfl⟩)
                      | (go_at_call 40; refine (P1.out ck (by omega) _).mono ?_; rintro e w6 ⟨rfl, hb6⟩))
                    go_roundw
                    case rel =>
                      have h7 := hst.out ck hck hcd 119 (by omega) (by omega)
                      have h8 := hd.out
                      exact ⟨false, _, k + 1, rfl, rfl, by go_num, by omega, SS.out ck hck hcd, nextB B0.out hb6⟩
                    case measure =>
                      have h7 := hst.out ck hck hcd 119 (by omega) (by omega)
                      show dotN (setS s' ck 119) m < dotN s' m
                      omega
          · have K1 := WN.out s strW true hS.size hS.ok isSide_W (by rw [sideN_W]; exact hS.wn)
            unfold strW at K1
            replace K1 := Lib.hid K1
            have g1 : ¬ (((pw m : Nat) : Int) ≤ (D : Int)) := by simp at hg; omega
            have g2 : ¬ (((pw m1 : Nat) : Int) ≤ (D : Int)) := by simp at hg; omega
            replace hS := Lib.hid hS
            clear hg
            generalize ltr 1 = L1 at *
            generalize pw m = pm at *
            generalize pw m1 = pm1 at *
            clear hok hs
            replace hp2 := Lib.hid hp2
            go_enter Tryd.func7, Tryd.ntmps7
            go_wp2_with (first
              | (go_at_call 15; refine (hFw.out _).mono ?_; rintro e w1 ⟨rfl, rfl⟩)
              | (go_at_call 22; refine (D1.out _ hI.out).mono ?_; rintro e w2 ⟨rfl, hb2⟩)
              | (go_at_call 17; refine (K1.out _ (hI.out.next hb2) (hT.out.next hb2)).mono ?_; rintro e w3 ⟨rfl, hb3⟩; replace hb2 := nextB hb2 hb3))
            go_loopw [3, 15, 16] (fun v3 p i wr => ∃ (b : Bool) (s' : ByteArray) (k : Nat), v3 = .bool b ∧ p = .string s' ∧ i = .int .i64 k ∧ k + dotN s' m ≤ 40 ∧ SafS m R s' (!b) ∧ Below w.heap.size w wr) (fun _ p _ _ => dotN (strOf p) m)
            case atStart => exact ⟨_, s, 0, rfl, rfl, rfl, by omega, hS.out, hb2⟩
            case round =>
              obtain ⟨b, s', k, rfl, rfl, rfl, hk, hS', B0⟩ := hrel
              have hs' := hS'.size
              have hszI : (s'.size : Int) = (m : Int) := by omega
              have F1 := Lib.hid (FR.out s' hs')
              have hsd : Hid (strOf (.string s') = s') := Lib.hid rfl
              obtain ⟨d, hd⟩ : ∃ d, Hid (dotN s' m = d) := ⟨_, Lib.hid rfl⟩
              rw [hd.out] at F1 hk
              by_cases hz : d = 0
              · subst hz
                have K2 := WN.out s' strD true hS'.size hS'.ok isSide_D (hS'.full hd.out _)
                unfold strD at K2
                replace K2 := Lib.hid K2
                replace hS' := Lib.hid hS'
                replace B0 := Lib.hid B0
                clear hk
                go_wp2_with (first
                  | (go_at_call 39; refine (F1.out _).mono ?_; rintro e w4 ⟨rfl, rfl⟩)
                  | (go_at_call 17; (with_reducible refine (K2.out _ (hI.out.next B0.out) (hT.out.next B0.out)).mono ?_); rintro e w5 ⟨rfl, hb5⟩; have hb6 := nextB B0.out hb5)
                  | (go_at_call 16; refine (hAl.out _ (hT.out.next hb6)).mono ?_; rintro e w7 ⟨rfl, hb7⟩))
                go_ret
                exact Ret.mk rfl (nextB hb6 hb7)
              · have hdp : (0 : Int) < (d : Int) := by omega
                have hdn : dotN s' m ≠ 0 := by rw [hd.out]; exact hz
                have hst : Hid (∀ i, i < m → bytA s' i = 46 → ∀ q, q < 256 → q ≠ 46 → dotN (setS s' i q) m + 1 = dotN s' m) := Lib.hid (fun i hi h46 q hq1 hq => by
                  have := dotN_set (s := s') (k := i) (b := q) (by omega) h46 hq1 hq m
                  rwa [if_pos hi] at this)
                cases b
                · obtain ⟨ci, hci, hcm, hc46, hSd⟩ := SafS.dog hS' hFF.out (free_pos hS'.size hS'.ok hdn)
                  have C1 := CA.out s' hS'.size hS'.ok (free_pos hS'.size hS'.ok hdn)
                  rw [hci] at C1
                  replace C1 := Lib.hid C1
                  have P1 := Lib.hid (PD.out s' ci (by omega))
                  replace hci := Lib.hid hci
                  replace hS' := Lib.hid hS'
                  replace hSd := Lib.hid hSd
                  have hks : ci < s'.size := by omega
                  have hbk : (s'[ci]'hks).toNat = 46 := by unfold bytA at hc46; rw [dif_pos hks] at hc46; exact hc46
                  have hkI : (ci : Int) < (m : Int) := by omega
                  have hk00 : ¬ ((ci : Int) < 0) := by omega
                  have hk01 : ¬ ((m : Int) ≤ (ci : Int)) := by omega
                  replace hc46 := Lib.hid hc46
                  replace hdn := Lib.hid hdn
                  replace B0 := Lib.hid B0
                  go_wp2_with (first
                    | (go_at_call 39; refine (F1.out _).mono ?_; rintro e w4 ⟨rfl, rfl⟩)
                    | (go_at_call 24; refine (C1.out _ (hI.out.next B0.out) (hT.out.next B0.out)).mono ?_; rintro e w5 ⟨rfl, hb5⟩)
                    | (go_at_call 40; refine (P1.out _).mono ?_; rintro e w6 ⟨rfl, hb6⟩))
                  go_roundw
                  case rel =>
                    have h7 := hst.out ci hcm hc46.out 100 (by omega) (by omega)
                    have h8 := hd.out
                    exact ⟨true, _, k, rfl, rfl, rfl, by omega, hSd.out, nextB (nextB B0.out hb5) hb6⟩
                  case measure =>
                    have h7 := hst.out ci hcm hc46.out 100 (by omega) (by omega)
                    show dotN (setS s' ci 100) m < dotN s' m
                    omega
                · have C1 := Lib.hid (fun by' hb => CH.out s' hs' by' hb hdn)
                  have P1 := Lib.hid (PW.out s')
                  have SS := Lib.hid (fun i hi hd => SafS.wolf (k := i) hS' hFF.out hi hd)
                  replace hS' := Lib.hid hS'
                  by_cases hmv : k < n4
                  · have hmvI : (k : Int) < (n4 : Int) := by omega
                    obtain ⟨bb, off, rfl, hcc⟩ : ∃ b off, a4 = some ⟨b, off, none⟩ ∧ ∀ i, i < n4 → ∃ v : Nat, v ≤ 255 ∧ wr.cell? ⟨b, off + i, none⟩ = some (.int .u8 (v : Nat)) := by
                      rcases hM.out.next B0 with h | h
                      · omega
                      · exact h
                    obtain ⟨mv, hmv8, x0⟩ := hcc k hmv
                    clear hcc
                    replace B0 := Lib.hid B0
                    have hcv : IntKind.i64.wrap (mv : Int) = (mv : Int) := IntWalk.i64_in _ (by omega)
                    replace hdn := Lib.hid hdn
                    go_wp2_with (first
                      | (go_at_call 39; refine (F1.out _).mono ?_; rintro e w4 ⟨rfl, rfl⟩)
                      | (go_at_call 41; refine (C1.out mv hmv8 _).mono ?_; rintro e w5 ⟨ck, rfl, hck, hcd, rfl⟩)
                      | (go_at_call 40; refine (P1.out ck (by omega) _).mono ?_; rintro e w6 ⟨rfl, hb6⟩))
                    go_roundw
                    case rel =>
                      have h7 := hst.out ck hck hcd 119 (by omega) (by omega)
                      have h8 := hd.out
                      exact ⟨false, _, k + 1, rfl, rfl, by go_num, by omega, SS.out ck hck hcd, nextB B0.out hb6⟩
                    case measure =>
                      have h7 := hst.out ck hck hcd 119 (by omega) (by omega)
                      show dotN (setS s' ck 119) m < dotN s' m
                      omega
                  · have hmvI : ¬ ((k : Int) < (n4 : Int)) := by omega
                    replace B0 := Lib.hid B0
                    replace hdn := Lib.hid hdn
                    go_wp2_with (first
                      | (go_at_call 39; refine (F1.out _).mono ?_; rintro e w4 ⟨rfl, rfl⟩)
                      | (go_at_call 41; refine (C1.out 0 (by omega) _).mono ?_; rintro e w5 ⟨ck, rfl, hck, hcd, rfl⟩)
                      | (go_at_call 40; refine (P1.out ck (by omega) _).mono ?_; rintro e w6 ⟨rfl, hb6⟩))
                    go_roundw
                    case rel =>
                      have h7 := hst.out ck hck hcd 119 (by omega) (by omega)
                      have h8 := hd.out
                      exact ⟨false, _, k + 1, rfl, rfl, by go_num, by omega, SS.out ck hck hcd, nextB B0.out hb6⟩
                    case measure =>
                      have h7 := hst.out ck hck hcd 119 (by omega) (by omega)
                      show dotN (setS s' ck 119) m < dotN s' m
                      omega
      · have hr2 : Hid (dngI x R s = 0) := Lib.hid (by unfold dngI; rw [he.out, if_neg h1])
        rw [hr2.out] at D1
        have d1 : ((e : Int) != 0) = true := by rw [bne_iff_ne]; omega
        go_enter Tryd.func7, Tryd.ntmps7
        go_wp2_with (first
          | (go_at_call 15; refine (hFw.out _).mono ?_; rintro e w1 ⟨rfl, rfl⟩)
          | (go_at_call 22; refine (D1.out _ hI.out).mono ?_; rintro e w2 ⟨rfl, hb2⟩)
          | (go_at_call 16; refine (hAl.out _ (hT.out.next hb2)).mono ?_; rintro e w6 ⟨rfl, hb6⟩))
        go_ret
        exact Ret.mk rfl (nextB hb2 hb6)
end Go.Proofs.YtgafmloljcgnoaaDoor
