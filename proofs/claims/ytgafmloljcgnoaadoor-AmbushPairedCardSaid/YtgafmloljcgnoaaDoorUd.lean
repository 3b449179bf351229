/- Layer 4: AmbushPaired returns true, and changes nothing. -/
import Derived.Test.YtgafmloljcgnoaaDoorUc
namespace Go.Proofs.YtgafmloljcgnoaaDoor
open Go Go.RowKit

theorem strE_few (n : Nat) : (decide (n ≤ 40) && decide (strE.size ≤ 40) && decide (strE.size ≤ 40)) = decide (n ≤ 40) := by
  have : strE.size = 0 := rfl
  rw [this]; simp

set_option maxRecDepth 100000 in
set_option maxHeartbeats 16000000 in
theorem paired_any (x : Int) (a : Option Addr) (n c : Nat) (R : List Int) (pa : Option Addr) (l pc : Nat) (ps : List (Int × Int)) (a4 : Option Addr) (n4 c4 : Nat) (w : World) (h : Ints w a R) (hn : R.length = n) (_hnc : n ≤ c) (_hnil : a = none → c = 0)
    (hps : Prs w pa ps) (hpl : ps.length = l) (_hlc : l ≤ pc) (_hpn : pa = none → pc = 0) (hM : Bys w a4 n4) (hT : Tab w) :
    Calls Tryd.prog 8 #[.int .i64 x, .slice a n c, .slice pa l pc, .slice a4 n4 c4] w (Ret (.bool true) w) := by
  have hAl := Lib.hid (fun W hW => alive_any W hW)
  have hFw := fun W => few_any n c a strE strE W
  rw [strE_few] at hFw
  unfold strE at hFw
  replace hT := Lib.hid hT
  replace hM := Lib.hid hM
  have RF := Lib.hid (fun W hW => refField_any x a n c R W hW hn)
  have hI := Lib.hid h
  have hn' := Lib.hid hn
  have hPs := Lib.hid hps
  have hpl' := Lib.hid hpl
  clear h hn hps
  obtain ⟨e, he⟩ : ∃ e, Hid (fE x R = e) := ⟨_, Lib.hid rfl⟩
  have he4 : e < 4 := by rw [← he.out]; exact fE_lt x R
  rw [he.out] at RF
  by_cases hq : ¬ (n ≤ 40 ∧ l ≤ 40 ∧ n4 ≤ 40 ∧ e = 0)
  · by_cases q1 : n ≤ 40
    · rw [decide_eq_true q1] at hFw
      replace hFw := Lib.hid hFw
      by_cases q2 : l ≤ 40
      · have q2i : ¬ ((40 : Int) < (l : Int)) := by omega
        by_cases q3 : n4 ≤ 40
        · have q3i : ¬ ((40 : Int) < (n4 : Int)) := by omega
          have d1 : ((e : Int) != 0) = true := by rw [bne_iff_ne]; omega
          clear hq q1 q2 q3
          go_enter Tryd.func8, Tryd.ntmps8
          go_wp2_with (first
            | (go_at_call 15; refine (hFw.out _).mono ?_; rintro e w1 ⟨rfl, rfl⟩)
            | (go_at_call 42; refine (RF.out _ hI.out).mono ?_; rintro e w2 ⟨rfl, hb2⟩)
            | (go_at_call 16; refine (hAl.out _ (hT.out.next hb2)).mono ?_; rintro e w1 ⟨rfl, hb1⟩))
          go_ret
          exact Ret.mk rfl (nextB hb2 hb1)
        · have q3i : (40 : Int) < (n4 : Int) := by omega
          clear hq q1 q2 q3
          go_enter Tryd.func8, Tryd.ntmps8
          go_wp2_with (first
            | (go_at_call 15; refine (hFw.out _).mono ?_; rintro e w1 ⟨rfl, rfl⟩)
            | (go_at_call 16; refine (hAl.out _ hT.out).mono ?_; rintro e w1 ⟨rfl, hb1⟩))
          go_ret
          exact Ret.mk rfl hb1
      · have q2i : (40 : Int) < (l : Int) := by omega
        clear hq q1 q2
        go_enter Tryd.func8, Tryd.ntmps8
        go_wp2_with (first
          | (go_at_call 15; refine (hFw.out _).mono ?_; rintro e w1 ⟨rfl, rfl⟩)
          | (go_at_call 16; refine (hAl.out _ hT.out).mono ?_; rintro e w1 ⟨rfl, hb1⟩))
        go_ret
        exact Ret.mk rfl hb1
    · rw [decide_eq_false q1] at hFw
      replace hFw := Lib.hid hFw
      clear hq q1
      go_enter Tryd.func8, Tryd.ntmps8
      go_wp2_with (first
        | (go_at_call 15; refine (hFw.out _).mono ?_; rintro e w1 ⟨rfl, rfl⟩)
        | (go_at_call 16; refine (hAl.out _ hT.out).mono ?_; rintro e w1 ⟨rfl, hb1⟩))
      go_ret
      exact Ret.mk rfl hb1
  · have hq2 : n ≤ 40 ∧ l ≤ 40 ∧ n4 ≤ 40 ∧ e = 0 := Classical.byContradiction hq
    obtain ⟨q1, q2, q3, rfl⟩ := hq2
    rw [decide_eq_true q1] at hFw
    replace hFw := Lib.hid hFw
    have q2i : ¬ ((40 : Int) < (l : Int)) := by omega
    have q3i : ¬ ((40 : Int) < (n4 : Int)) := by omega
    obtain ⟨hx, hF⟩ := fE_ok he.out
    obtain ⟨m, hm⟩ : ∃ m, x.toNat = m := ⟨_, rfl⟩
    rw [hm] at hx hF
    subst hx
    have PA := fun W hW => Pairing_any (m : Int) a n c R W hW hn'.out
    have e5 : prE (m : Int) R = if pairR m R = none then 10 else 0 := by unfold prE; rw [if_pos he.out]; rfl
    have e6 : prL (m : Int) R = (pairR m R).getD [] := by unfold prL; rw [if_pos he.out]; rfl
    rw [e5, e6] at PA
    have IP := Lib.hid (fun W hW hPW => IsPairing_any m a n c R pa l pc ps W hW hn'.out hF hPW hpl'.out (by omega))
    have hm1 := hF.pos
    have hm9 := hF.le
    clear hm e5 e6 hq
    cases hpr : pairR m R with
    | none =>
      have hno := pairR_none (ps := ps) hpr
      rw [hno] at IP
      rw [hpr, if_pos rfl] at PA
      replace PA := Lib.hid PA
      replace hno := Lib.hid hno
      replace hpr := Lib.hid hpr
      replace hF := Lib.hid hF
      go_enter Tryd.func8, Tryd.ntmps8
      go_wp2_with (first
        | (go_at_call 15; refine (hFw.out _).mono ?_; rintro e w1 ⟨rfl, rfl⟩)
        | (go_at_call 42; refine (RF.out _ hI.out).mono ?_; rintro e w2 ⟨rfl, hb2⟩)
        | (go_at_call 26; refine (PA.out _ (hI.out.next hb2)).mono ?_; rintro e w3 ⟨ba, bc, rfl, hbc, hbp, hb3⟩; replace hbp := Lib.hid hbp; replace hb2 := nextB hb2 hb3)
        | (go_at_call 29; refine (IP.out _ (hI.out.next hb2) (hPs.out.next hb2)).mono ?_; rintro e w4 ⟨rfl, hb4⟩; replace hb2 := nextB hb2 hb4)
        | (go_at_call 16; refine (hAl.out _ (hT.out.next hb2)).mono ?_; rintro e w1 ⟨rfl, hb1⟩))
      go_ret
      exact Ret.mk rfl (nextB hb2 hb1)
    | some r =>
      rw [hpr, if_neg (by simp)] at PA
      simp only [Option.getD_some] at PA
      obtain ⟨hir, hrl⟩ := pairR_some hpr
      have WN : Hid (∀ (s' t : ByteArray), s'.size = m → okS s' = true → isSide t = true → win m R (psB s' 119 m) (psB s' 100 m) (sideN t == 1) = false → ∀ W, Ints W a R → Tab W → Calls Tryd.prog 17 #[.int .i64 (m : Nat), .slice a n c, .string s', .string t] W (Ret (.tuple #[.string (ltr 1), .int .i64 0]) W)) := Lib.hid (fun s' t h1 h2 h3 h4 W hW hTW => by
        have tn := tE_pos (pE_pos hF h1 h2) h3
        have := Winner_any (m : Int) a n c R s' t W hW hn'.out hTW
        rw [winS_pos tn, tn, h4] at this
        exact this)
      have K1 := WN.out (emp m) strW (emp_size m) (emp_ok m) isSide_W (emp_win hir hm1 _)
      have K2 := WN.out (emp m) strD (emp_size m) (emp_ok m) isSide_D (emp_win hir hm1 _)
      unfold strW at K1
      unfold strD at K2
      replace K1 := Lib.hid K1
      replace K2 := Lib.hid K2
      have WR := Lib.hid (fun W => written_any m hm9 W)
      have FR := Lib.hid (fun (s' : ByteArray) (hs' : s'.size = m) W => free_any s' m hs' (by omega) W)
      have CH := Lib.hid (fun (s' : ByteArray) (hs' : s'.size = m) by' (hb : by' ≤ 255) (h0 : dotN s' m ≠ 0) W => chosen_any s' m hs' (by omega) by' hb h0 W)
      have CN := Lib.hid (fun (s' : ByteArray) (hs' : s'.size = m) (h0 : dotN s' m = 0) W => chosen_none s' m hs' (by omega) h0 W)
      have PW := Lib.hid (fun (s' : ByteArray) k (hk : k < s'.size) W => (show Calls Tryd.prog 40 #[.string s', .int .i64 (k : Nat), .int .u8 119] W (Ret (.string (setS s' k 119)) W) from placed_any s' k 119 hk (by omega) W))
      have PD := Lib.hid (fun (s' : ByteArray) k (hk : k < s'.size) W => (show Calls Tryd.prog 40 #[.string s', .int .i64 (k : Nat), .int .u8 100] W (Ret (.string (setS s' k 100)) W) from placed_any s' k 100 hk (by omega) W))
      have PN := Lib.hid (fun (s' : ByteArray) W => (show Calls Tryd.prog 40 #[.string s', .int .i64 (-1), .int .u8 100] W (Ret (.string s') W) from placed_none s' 100 W))
      have l1 : (ltr 1).toList = [100] := ltr_list false
      generalize ltr 1 = L1 at *
      have hre : dotN (emp m) m ≤ 40 := by have := dotN_le (emp m) m; omega
      cases his : isP m R ps
      case true =>
        rw [his] at IP
        obtain ⟨r2, hr2, hr3⟩ := pairR_least his
        obtain rfl : r = r2 := by rw [hpr] at hr2; exact Option.some.inj hr2
        have hbl : ¬ ((l : Int) < (r.length : Int)) := by have := hpl'.out; omega
        have AN := Lib.hid (fun sp (hsp : sp < m) W hW hPW => Answer_any m a n c R pa l pc ps sp W hW hn'.out hF hPW hpl'.out (by omega) his hsp)
        have HC := Lib.hid (fun (s' : ByteArray) ck (hS : HelS m ps s') hck hcd => HelS.cases (ck := ck) hF his hS hck hcd)
        have HE := Lib.hid (HelS.emp m ps)
        have FU := Lib.hid (fun (s' : ByteArray) (hS : HelS m ps s') (h0 : dotN s' m = 0) nx => hS.full his h0 nx)
        replace PA := Lib.hid PA
        replace hir := Lib.hid hir
        replace hpr := Lib.hid hpr
        replace hF := Lib.hid hF
        replace his := Lib.hid his
        go_enter Tryd.func8, Tryd.ntmps8
        go_wp2_with (first
          | (go_at_call 15; refine (hFw.out _).mono ?_; rintro e w1 ⟨rfl, rfl⟩)
          | (go_at_call 42; refine (RF.out _ hI.out).mono ?_; rintro e w2 ⟨rfl, hb2⟩)
          | (go_at_call 26; refine (PA.out _ (hI.out.next hb2)).mono ?_; rintro e w3 ⟨ba, bc, rfl, hbc, hbp, hb3⟩; replace hbp := Lib.hid hbp; replace hb2 := nextB hb2 hb3; have hb9 := Below.refl w3.heap.size w3)
          | (go_at_call 29; refine (IP.out _ (hI.out.next hb2) (hPs.out.next hb2)).mono ?_; rintro e w4 ⟨rfl, hb4⟩; replace hb2 := nextB hb2 hb4; replace hb9 := nextB hb9 hb4)
          | (go_at_call 43; refine (WR.out _).mono ?_; rintro e w5 ⟨rfl, hb5⟩; replace hb2 := nextB hb2 hb5; replace hb9 := nextB hb9 hb5)
          | (go_at_call 17; (with_reducible refine (K1.out _ (hI.out.next hb2) (hT.out.next hb2)).mono ?_); rintro e w6 ⟨rfl, hb6⟩; replace hb2 := nextB hb2 hb6; replace hb9 := nextB hb9 hb6)
          | (go_at_call 17; (with_reducible refine (K2.out _ (hI.out.next hb2) (hT.out.next hb2)).mono ?_); rintro e w7 ⟨rfl, hb7⟩; replace hb2 := nextB hb2 hb7; replace hb9 := nextB hb9 hb7))
        go_loopw [13, 18] (fun p i wr => ∃ (s' : ByteArray) (k : Nat), p = .string s' ∧ i = .int .i64 k ∧ k + dotN s' m ≤ 40 ∧ HelS m ps s' ∧ Below w.heap.size w wr ∧ Below w3.heap.size w3 wr) (fun p _ _ => dotN (strOf p) m)
        case atStart => exact ⟨emp m, 0, rfl, rfl, by omega, HE.out, hb2, hb9⟩
        case round =>
          clear hb2 hb9
          obtain ⟨s', k, rfl, rfl, hk, hS', B0, B9⟩ := hrel
          have hs' := hS'.size
          have hszI : (s'.size : Int) = (m : Int) := by omega
          have F1 := Lib.hid (FR.out s' hs')
          obtain ⟨d, hd⟩ : ∃ d, Hid (dotN s' m = d) := ⟨_, Lib.hid rfl⟩
          rw [hd.out] at F1 hk
          by_cases hz : d = 0
          · subst hz
            have K3 := WN.out s' strW hS'.size hS'.ok isSide_W (FU.out s' hS' hd.out _)
            unfold strW at K3
            replace K3 := Lib.hid K3
            replace hS' := Lib.hid hS'
            replace B0 := Lib.hid B0
            replace B9 := Lib.hid B9
            clear hk
            go_wp2_with (first
              | (go_at_call 39; refine (F1.out _).mono ?_; rintro e w4 ⟨rfl, rfl⟩)
              | (go_at_call 17; (with_reducible refine (K3.out _ (hI.out.next B0.out) (hT.out.next B0.out)).mono ?_); rintro e w5 ⟨rfl, hb5⟩; have hb6 := nextB B0.out hb5)
              | (go_at_call 16; refine (hAl.out _ (hT.out.next hb6)).mono ?_; rintro e w7 ⟨rfl, hb7⟩))
            go_ret
            exact Ret.mk rfl (nextB hb6 hb7)
          · have hdp : (0 : Int) < (d : Int) := by omega
            have hdn : dotN s' m ≠ 0 := by rw [hd.out]; exact hz
            have C1 := Lib.hid (fun by' hb => CH.out s' hs' by' hb hdn)
            have P1 := Lib.hid (PW.out s')
            replace hS' := Lib.hid hS'
            replace hdn := Lib.hid hdn
            have hst : Hid (∀ (s'' : ByteArray), s''.size = m → ∀ i, i < m → bytA s'' i = 46 → ∀ q, q < 256 → q ≠ 46 → dotN (setS s'' i q) m + 1 = dotN s'' m) := Lib.hid (fun s'' hs'' i hi h46 q hq1 hq => by
              have := dotN_set (s := s'') (k := i) (b := q) (by omega) h46 hq1 hq m
              rwa [if_pos hi] at this)
            by_cases hmv : k < n4
            · have hmvI : (k : Int) < (n4 : Int) := by omega
              obtain ⟨bb, off, rfl, hcc⟩ : ∃ b off, a4 = some ⟨b, off, none⟩ ∧ ∀ i, i < n4 → ∃ v : Nat, v ≤ 255 ∧ wr.cell? ⟨b, off + i, none⟩ = some (.int .u8 (v : Nat)) := by
                rcases hM.out.next B0 with h | h
                · omega
                · exact h
              obtain ⟨mv, hmv8, x0⟩ := hcc k hmv
              clear hcc
              have hcv : IntKind.i64.wrap (mv : Int) = (mv : Int) := IntWalk.i64_in _ (by omega)
              replace B0 := Lib.hid B0
              replace B9 := Lib.hid B9
              go_wp2_with (first
                | (go_at_call 39; refine (F1.out _).mono ?_; rintro e w4 ⟨rfl, rfl⟩)
                | (go_at_call 41; refine (C1.out mv hmv8 _).mono ?_; rintro e w5 ⟨ck, rfl, hck, hcd, rfl⟩)
                | (go_at_call 40; refine (P1.out ck (by omega) _).mono ?_; rintro e w6 ⟨rfl, hb6⟩))
              have BB := nextB B0.out hb6
              have hbx := nextB B9.out hb6
              have hck2 := hst.out s' hs' ck hck hcd 119 (by omega) (by omega)
              rw [hd.out] at hck2
              have A1 := AN.out ck hck
              have s1s : (setS s' ck 119).size = m := by rw [setS_size]; exact hs'
              have s1I : ((setS s' ck 119).size : Int) = (m : Int) := by omega
              have H0 := HC.out s' ck hS'.out hck hcd
              have X2 := hst.out _ s1s
              have CH1 := CH.out _ s1s
              have CN1 := Lib.hid (CN.out _ s1s)
              have PD1 := PD.out (setS s' ck 119)
              have PN1 := Lib.hid (PN.out (setS s' ck 119))
              generalize setS s' ck 119 = s1 at *
              replace hcd := Lib.hid hcd
              replace hck2 := Lib.hid hck2
              replace X2 := Lib.hid X2
              rcases H0 with ⟨t, ha, htm, ht46, hel⟩ | ⟨hv, hel0, helj⟩
              · rw [ha] at A1
                have hts : t < s1.size := by omega
                have hbk : (s1[t]'hts).toNat = 46 := by unfold bytA at ht46; rw [dif_pos hts] at ht46; exact ht46
                have hkI : (t : Int) < (m : Int) := by omega
                have hk00 : ¬ ((t : Int) < 0) := by omega
                have hk02 : ¬ ((t : Int) < -1) := by omega
                have hk01 : ¬ ((m : Int) ≤ (t : Int)) := by omega
                have PP := Lib.hid (PD1 t (by omega))
                replace ha := Lib.hid ha
                replace hel := Lib.hid hel
                have ht47 := Lib.hid ht46
                clear ht46 CH1
                refine (A1 _ (hI.out.next BB) (hPs.out.next BB)).mono ?_
                rintro e w7 ⟨rfl, hb7⟩
                go_wp2_with (first
                  | (go_at_call 40; refine (PP.out _).mono ?_; rintro e w8 ⟨rfl, hb8⟩))
                go_roundw
                case rel =>
                  have h7 := X2.out t htm ht47.out 100 (by omega) (by omega)
                  have h8 := hck2.out
                  exact ⟨_, k + 1, rfl, by go_num, by omega, hel.out, nextB (nextB BB hb7) hb8, nextB (nextB hbx hb7) hb8⟩
                case measure =>
                  have h7 := X2.out t htm ht47.out 100 (by omega) (by omega)
                  have h8 := hck2.out
                  show dotN (setS s1 t 100) m < dotN s' m
                  rw [hd.out]; omega
              · replace hel0 := Lib.hid hel0
                replace helj := Lib.hid helj
                by_cases hz1 : dotN s1 m = 0
                · have CC := Lib.hid (CN1.out hz1)
                  replace hz1 := Lib.hid hz1
                  clear CH1 PD1
                  rcases hv with ha | ⟨t, ha, htm, ht46⟩
                  · rw [ha] at A1
                    replace ha := Lib.hid ha
                    have hm0 : ¬ ((m : Int) ≤ -1) := by omega
                    refine (A1 _ (hI.out.next BB) (hPs.out.next BB)).mono ?_
                    rintro e w7 ⟨rfl, hb7⟩
                    go_wp2_with (first
                      | (go_at_call 41; refine (CC.out _).mono ?_; rintro e w9 ⟨rfl, rfl⟩)
                      | (go_at_call 40; refine (PN1.out _).mono ?_; rintro e w8 ⟨rfl, hb8⟩))
                    go_roundw
                    case rel =>
                      have h8 := hck2.out
                      exact ⟨_, k + 1, rfl, by go_num, by omega, hel0.out, nextB (nextB BB hb7) hb8, nextB (nextB hbx hb7) hb8⟩
                    case measure =>
                      have h8 := hck2.out
                      show dotN s1 m < dotN s' m
                      rw [hd.out]; omega
                  · rw [ha] at A1
                    replace ha := Lib.hid ha
                    have hts : t < s1.size := by omega
                    have hbt : bytA s1 t = (s1[t]'hts).toNat := by unfold bytA; rw [dif_pos hts]
                    have ct : (((s1[t]'hts).toNat : Int) != 46) = true := by rw [bne_iff_ne]; omega
                    have ct2 : (((s1[t]'hts).toNat : Int) == 46) = false := by rw [beq_eq_false_iff_ne]; omega
                    have hkI : (t : Int) < (m : Int) := by omega
                    have hk00 : ¬ ((t : Int) < 0) := by omega
                    have hk02 : ¬ ((t : Int) < -1) := by omega
                    have hk01 : ¬ ((m : Int) ≤ (t : Int)) := by omega
                    clear ht46 hbt
                    refine (A1 _ (hI.out.next BB) (hPs.out.next BB)).mono ?_
                    rintro e w7 ⟨rfl, hb7⟩
                    go_wp2_with (first
                      | (go_at_call 41; refine (CC.out _).mono ?_; rintro e w9 ⟨rfl, rfl⟩)
                      | (go_at_call 40; refine (PN1.out _).mono ?_; rintro e w8 ⟨rfl, hb8⟩))
                    go_roundw
                    case rel =>
                      have h8 := hck2.out
                      exact ⟨_, k + 1, rfl, by go_num, by omega, hel0.out, nextB (nextB BB hb7) hb8, nextB (nextB hbx hb7) hb8⟩
                    case measure =>
                      have h8 := hck2.out
                      show dotN s1 m < dotN s' m
                      rw [hd.out]; omega
                · have CC := Lib.hid (CH1 0 (by omega) hz1)
                  replace hz1 := Lib.hid hz1
                  replace PD1 := Lib.hid PD1
                  clear CH1
                  rcases hv with ha | ⟨t, ha, htm, ht46⟩
                  · rw [ha] at A1
                    replace ha := Lib.hid ha
                    have hm0 : ¬ ((m : Int) ≤ -1) := by omega
                    refine (A1 _ (hI.out.next BB) (hPs.out.next BB)).mono ?_
                    rintro e w7 ⟨rfl, hb7⟩
                    go_wp2_with (first
                      | (go_at_call 41; refine (CC.out _).mono ?_; rintro e w9 ⟨cj, rfl, hcj, hcjd, rfl⟩)
                      | (go_at_call 40; refine (PD1.out cj (by omega) _).mono ?_; rintro e w8 ⟨rfl, hb8⟩))
                    go_roundw
                    case rel =>
                      have h7 := X2.out cj hcj hcjd 100 (by omega) (by omega)
                      have h8 := hck2.out
                      exact ⟨_, k + 1, rfl, by go_num, by omega, helj.out cj hcj hcjd, nextB (nextB BB hb7) hb8, nextB (nextB hbx hb7) hb8⟩
                    case measure =>
                      have h7 := X2.out cj hcj hcjd 100 (by omega) (by omega)
                      have h8 := hck2.out
                      show dotN (setS s1 cj 100) m < dotN s' m
                      rw [hd.out]; omega
                  · rw [ha] at A1
                    replace ha := Lib.hid ha
                    have hts : t < s1.size := by omega
                    have hbt : bytA s1 t = (s1[t]'hts).toNat := by unfold bytA; rw [dif_pos hts]
                    have ct : (((s1[t]'hts).toNat : Int) != 46) = true := by rw [bne_iff_ne]; omega
                    have ct2 : (((s1[t]'hts).toNat : Int) == 46) = false := by rw [beq_eq_false_iff_ne]; omega
                    have hkI : (t : Int) < (m : Int) := by omega
                    have hk00 : ¬ ((t : Int) < 0) := by omega
                    have hk02 : ¬ ((t : Int) < -1) := by omega
                    have hk01 : ¬ ((m : Int) ≤ (t : Int)) := by omega
                    clear ht46 hbt
                    refine (A1 _ (hI.out.next BB) (hPs.out.next BB)).mono ?_
                    rintro e w7 ⟨rfl, hb7⟩
                    go_wp2_with (first
                      | (go_at_call 41; refine (CC.out _).mono ?_; rintro e w9 ⟨cj, rfl, hcj, hcjd, rfl⟩)
                      | (go_at_call 40; refine (PD1.out cj (by omega) _).mono ?_; rintro e w8 ⟨rfl, hb8⟩))
                    go_roundw
                    case rel =>
                      have h7 := X2.out cj hcj hcjd 100 (by omega) (by omega)
                      have h8 := hck2.out
                      exact ⟨_, k + 1, rfl, by go_num, by omega, helj.out cj hcj hcjd, nextB (nextB BB hb7) hb8, nextB (nextB hbx hb7) hb8⟩
                    case measure =>
                      have h7 := X2.out cj hcj hcjd 100 (by omega) (by omega)
                      have h8 := hck2.out
                      show dotN (setS s1 cj 100) m < dotN s' m
                      rw [hd.out]; omega
            · have hmvI : ¬ ((k : Int) < (n4 : Int)) := by omega
              replace B0 := Lib.hid B0
              replace B9 := Lib.hid B9
              go_wp2_with (first
                | (go_at_call 39; refine (F1.out _).mono ?_; rintro e w4 ⟨rfl, rfl⟩)
                | (go_at_call 41; refine (C1.out 0 (by omega) _).mono ?_; rintro e w5 ⟨ck, rfl, hck, hcd, rfl⟩)
                | (go_at_call 40; refine (P1.out ck (by omega) _).mono ?_; rintro e w6 ⟨rfl, hb6⟩))
              have BB := nextB B0.out hb6
              have hbx := nextB B9.out hb6
              have hck2 := hst.out s' hs' ck hck hcd 119 (by omega) (by omega)
              rw [hd.out] at hck2
              have A1 := AN.out ck hck
              have s1s : (setS s' ck 119).size = m := by rw [setS_size]; exact hs'
              have s1I : ((setS s' ck 119).size : Int) = (m : Int) := by omega
              have H0 := HC.out s' ck hS'.out hck hcd
              have X2 := hst.out _ s1s
              have CH1 := CH.out _ s1s
              have CN1 := Lib.hid (CN.out _ s1s)
              have PD1 := PD.out (setS s' ck 119)
              have PN1 := Lib.hid (PN.out (setS s' ck 119))
              generalize setS s' ck 119 = s1 at *
              replace hcd := Lib.hid hcd
              replace hck2 := Lib.hid hck2
              replace X2 := Lib.hid X2
              rcases H0 with ⟨t, ha, htm, ht46, hel⟩ | ⟨hv, hel0, helj⟩
              · rw [ha] at A1
                have hts : t < s1.size := by omega
                have hbk : (s1[t]'hts).toNat = 46 := by unfold bytA at ht46; rw [dif_pos hts] at ht46; exact ht46
                have hkI : (t : Int) < (m : Int) := by omega
                have hk00 : ¬ ((t : Int) < 0) := by omega
                have hk02 : ¬ ((t : Int) < -1) := by omega
                have hk01 : ¬ ((m : Int) ≤ (t : Int)) := by omega
                have PP := Lib.hid (PD1 t (by omega))
                replace ha := Lib.hid ha
                replace hel := Lib.hid hel
                have ht47 := Lib.hid ht46
                clear ht46 CH1
                refine (A1 _ (hI.out.next BB) (hPs.out.next BB)).mono ?_
                rintro e w7 ⟨rfl, hb7⟩
                go_wp2_with (first
                  | (go_at_call 40; refine (PP.out _).mono ?_; rintro e w8 ⟨rfl, hb8⟩))
                go_roundw
                case rel =>
                  have h7 := X2.out t htm ht47.out 100 (by omega) (by omega)
                  have h8 := hck2.out
                  exact ⟨_, k + 1, rfl, by go_num, by omega, hel.out, nextB (nextB BB hb7) hb8, nextB (nextB hbx hb7) hb8⟩
                case measure =>
                  have h7 := X2.out t htm ht47.out 100 (by omega) (by omega)
                  have h8 := hck2.out
                  show dotN (setS s1 t 100) m < dotN s' m
                  rw [hd.out]; omega
              · replace hel0 := Lib.hid hel0
                replace helj := Lib.hid helj
                by_cases hz1 : dotN s1 m = 0
                · have CC := Lib.hid (CN1.out hz1)
                  replace hz1 := Lib.hid hz1
                  clear CH1 PD1
                  rcases hv with ha | ⟨t, ha, htm, ht46⟩
                  · rw [ha] at A1
                    replace ha := Lib.hid ha
                    have hm0 : ¬ ((m : Int) ≤ -1) := by omega
                    refine (A1 _ (hI.out.next BB) (hPs.out.next BB)).mono ?_
                    rintro e w7 ⟨rfl, hb7⟩
                    go_wp2_with (first
                      | (go_at_call 41; refine (CC.out _).mono ?_; rintro e w9 ⟨rfl, rfl⟩)
                      | (go_at_call 40; refine (PN1.out _).mono ?_; rintro e w8 ⟨rfl, hb8⟩))
                    go_roundw
                    case rel =>
                      have h8 := hck2.out
                      exact ⟨_, k + 1, rfl, by go_num, by omega, hel0.out, nextB (nextB BB hb7) hb8, nextB (nextB hbx hb7) hb8⟩
                    case measure =>
                      have h8 := hck2.out
                      show dotN s1 m < dotN s' m
                      rw [hd.out]; omega
                  · rw [ha] at A1
                    replace ha := Lib.hid ha
                    have hts : t < s1.size := by omega
                    have hbt : bytA s1 t = (s1[t]'hts).toNat := by unfold bytA; rw [dif_pos hts]
                    have ct : (((s1[t]'hts).toNat : Int) != 46) = true := by rw [bne_iff_ne]; omega
                    have ct2 : (((s1[t]'hts).toNat : Int) == 46) = false := by rw [beq_eq_false_iff_ne]; omega
                    have hkI : (t : Int) < (m : Int) := by omega
                    have hk00 : ¬ ((t : Int) < 0) := by omega
                    have hk02 : ¬ ((t : Int) < -1) := by omega
                    have hk01 : ¬ ((m : Int) ≤ (t : Int)) := by omega
                    clear ht46 hbt
                    refine (A1 _ (hI.out.next BB) (hPs.out.next BB)).mono ?_
                    rintro e w7 ⟨rfl, hb7⟩
                    go_wp2_with (first
                      | (go_at_call 41; refine (CC.out _).mono ?_; rintro e w9 ⟨rfl, rfl⟩)
                      | (go_at_call 40; refine (PN1.out _).mono ?_; rintro e w8 ⟨rfl, hb8⟩))
                    go_roundw
                    case rel =>
                      have h8 := hck2.out
                      exact ⟨_, k + 1, rfl, by go_num, by omega, hel0.out, nextB (nextB BB hb7) hb8, nextB (nextB hbx hb7) hb8⟩
                    case measure =>
                      have h8 := hck2.out
                      show dotN s1 m < dotN s' m
                      rw [hd.out]; omega
                · have CC := Lib.hid (CH1 0 (by omega) hz1)
                  replace hz1 := Lib.hid hz1
                  replace PD1 := Lib.hid PD1
                  clear CH1
                  rcases hv with ha | ⟨t, ha, htm, ht46⟩
                  · rw [ha] at A1
                    replace ha := Lib.hid ha
                    have hm0 : ¬ ((m : Int) ≤ -1) := by omega
                    refine (A1 _ (hI.out.next BB) (hPs.out.next BB)).mono ?_
                    rintro e w7 ⟨rfl, hb7⟩
                    go_wp2_with (first
                      | (go_at_call 41; refine (CC.out _).mono ?_; rintro e w9 ⟨cj, rfl, hcj, hcjd, rfl⟩)
                      | (go_at_call 40; refine (PD1.out cj (by omega) _).mono ?_; rintro e w8 ⟨rfl, hb8⟩))
                    go_roundw
                    case rel =>
                      have h7 := X2.out cj hcj hcjd 100 (by omega) (by omega)
                      have h8 := hck2.out
                      exact ⟨_, k + 1, rfl, by go_num, by omega, helj.out cj hcj hcjd, nextB (nextB BB hb7) hb8, nextB (nextB hbx hb7) hb8⟩
                    case measure =>
                      have h7 := X2.out cj hcj hcjd 100 (by omega) (by omega)
                      have h8 := hck2.out
                      show dotN (setS s1 cj 100) m < dotN s' m
                      rw [hd.out]; omega
                  · rw [ha] at A1
                    replace ha := Lib.hid ha
                    have hts : t < s1.size := by omega
                    have hbt : bytA s1 t = (s1[t]'hts).toNat := by unfold bytA; rw [dif_pos hts]
                    have ct : (((s1[t]'hts).toNat : Int) != 46) = true := by rw [bne_iff_ne]; omega
                    have ct2 : (((s1[t]'hts).toNat : Int) == 46) = false := by rw [beq_eq_false_iff_ne]; omega
                    have hkI : (t : Int) < (m : Int) := by omega
                    have hk00 : ¬ ((t : Int) < 0) := by omega
                    have hk02 : ¬ ((t : Int) < -1) := by omega
                    have hk01 : ¬ ((m : Int) ≤ (t : Int)) := by omega
                    clear ht46 hbt
                    refine (A1 _ (hI.out.next BB) (hPs.out.next BB)).mono ?_
                    rintro e w7 ⟨rfl, hb7⟩
                    go_wp2_with (first
                      | (go_at_call 41; refine (CC.out _).mono ?_; rintro e w9 ⟨cj, rfl, hcj, hcjd, rfl⟩)
                      | (go_at_call 40; refine (PD1.out cj (by omega) _).mono ?_; rintro e w8 ⟨rfl, hb8⟩))
                    go_roundw
                    case rel =>
                      have h7 := X2.out cj hcj hcjd 100 (by omega) (by omega)
                      have h8 := hck2.out
                      exact ⟨_, k + 1, rfl, by go_num, by omega, helj.out cj hcj hcjd, nextB (nextB BB hb7) hb8, nextB (nextB hbx hb7) hb8⟩
                    case measure =>
                      have h7 := X2.out cj hcj hcjd 100 (by omega) (by omega)
                      have h8 := hck2.out
                      show dotN (setS s1 cj 100) m < dotN s' m
                      rw [hd.out]; omega

      case false =>
        rw [his] at IP
        have AN := Lib.hid (fun ba bc (hbc : r.length ≤ bc) sp (hsp : sp < m) W hW hPW => Answer_any m a n c R ba r.length bc r sp W hW hn'.out hF hPW rfl (by omega) hir hsp)
        have HC := Lib.hid (fun (s' : ByteArray) ck (hS : HelS m r s') hck hcd => HelS.cases (ck := ck) hF hir hS hck hcd)
        have HE := Lib.hid (HelS.emp m r)
        have FU := Lib.hid (fun (s' : ByteArray) (hS : HelS m r s') (h0 : dotN s' m = 0) nx => hS.full hir h0 nx)
        replace PA := Lib.hid PA
        replace hir := Lib.hid hir
        replace hpr := Lib.hid hpr
        replace hF := Lib.hid hF
        replace his := Lib.hid his
        go_enter Tryd.func8, Tryd.ntmps8
        go_wp2_with (first
          | (go_at_call 15; refine (hFw.out _).mono ?_; rintro e w1 ⟨rfl, rfl⟩)
          | (go_at_call 42; refine (RF.out _ hI.out).mono ?_; rintro e w2 ⟨rfl, hb2⟩)
          | (go_at_call 26; refine (PA.out _ (hI.out.next hb2)).mono ?_; rintro e w3 ⟨ba, bc, rfl, hbc, hbp, hb3⟩; replace hbp := Lib.hid hbp; replace hb2 := nextB hb2 hb3; have hb9 := Below.refl w3.heap.size w3)
          | (go_at_call 29; refine (IP.out _ (hI.out.next hb2) (hPs.out.next hb2)).mono ?_; rintro e w4 ⟨rfl, hb4⟩; replace hb2 := nextB hb2 hb4; replace hb9 := nextB hb9 hb4)
          | (go_at_call 43; refine (WR.out _).mono ?_; rintro e w5 ⟨rfl, hb5⟩; replace hb2 := nextB hb2 hb5; replace hb9 := nextB hb9 hb5)
          | (go_at_call 17; (with_reducible refine (K1.out _ (hI.out.next hb2) (hT.out.next hb2)).mono ?_); rintro e w6 ⟨rfl, hb6⟩; replace hb2 := nextB hb2 hb6; replace hb9 := nextB hb9 hb6)
          | (go_at_call 17; (with_reducible refine (K2.out _ (hI.out.next hb2) (hT.out.next hb2)).mono ?_); rintro e w7 ⟨rfl, hb7⟩; replace hb2 := nextB hb2 hb7; replace hb9 := nextB hb9 hb7))
        go_loopw [13, 18] (fun p i wr => ∃ (s' : ByteArray) (k : Nat), p = .string s' ∧ i = .int .i64 k ∧ k + dotN s' m ≤ 40 ∧ HelS m r s' ∧ Below w.heap.size w wr ∧ Below w3.heap.size w3 wr) (fun p _ _ => dotN (strOf p) m)
        case atStart => exact ⟨emp m, 0, rfl, rfl, by omega, HE.out, hb2, hb9⟩
        case round =>
          clear hb2 hb9
          obtain ⟨s', k, rfl, rfl, hk, hS', B0, B9⟩ := hrel
          have hs' := hS'.size
          have hszI : (s'.size : Int) = (m : Int) := by omega
          have F1 := Lib.hid (FR.out s' hs')
          obtain ⟨d, hd⟩ : ∃ d, Hid (dotN s' m = d) := ⟨_, Lib.hid rfl⟩
          rw [hd.out] at F1 hk
          by_cases hz : d = 0
          · subst hz
            have K3 := WN.out s' strW hS'.size hS'.ok isSide_W (FU.out s' hS' hd.out _)
            unfold strW at K3
            replace K3 := Lib.hid K3
            replace hS' := Lib.hid hS'
            replace B0 := Lib.hid B0
            replace B9 := Lib.hid B9
            clear hk
            go_wp2_with (first
              | (go_at_call 39; refine (F1.out _).mono ?_; rintro e w4 ⟨rfl, rfl⟩)
              | (go_at_call 17; (with_reducible refine (K3.out _ (hI.out.next B0.out) (hT.out.next B0.out)).mono ?_); rintro e w5 ⟨rfl, hb5⟩; have hb6 := nextB B0.out hb5)
              | (go_at_call 16; refine (hAl.out _ (hT.out.next hb6)).mono ?_; rintro e w7 ⟨rfl, hb7⟩))
            go_ret
            exact Ret.mk rfl (nextB hb6 hb7)
          · have hdp : (0 : Int) < (d : Int) := by omega
            have hdn : dotN s' m ≠ 0 := by rw [hd.out]; exact hz
            have C1 := Lib.hid (fun by' hb => CH.out s' hs' by' hb hdn)
            have P1 := Lib.hid (PW.out s')
            replace hS' := Lib.hid hS'
            replace hdn := Lib.hid hdn
            have hst : Hid (∀ (s'' : ByteArray), s''.size = m → ∀ i, i < m → bytA s'' i = 46 → ∀ q, q < 256 → q ≠ 46 → dotN (setS s'' i q) m + 1 = dotN s'' m) := Lib.hid (fun s'' hs'' i hi h46 q hq1 hq => by
              have := dotN_set (s := s'') (k := i) (b := q) (by omega) h46 hq1 hq m
              rwa [if_pos hi] at this)
            by_cases hmv : k < n4
            · have hmvI : (k : Int) < (n4 : Int) := by omega
              obtain ⟨bb, off, rfl, hcc⟩ : ∃ b off, a4 = some ⟨b, off, none⟩ ∧ ∀ i, i < n4 → ∃ v : Nat, v ≤ 255 ∧ wr.cell? ⟨b, off + i, none⟩ = some (.int .u8 (v : Nat)) := by
                rcases hM.out.next B0 with h | h
                · omega
                · exact h
              obtain ⟨mv, hmv8, x0⟩ := hcc k hmv
              clear hcc
              have hcv : IntKind.i64.wrap (mv : Int) = (mv : Int) := IntWalk.i64_in _ (by omega)
              replace B0 := Lib.hid B0
              replace B9 := Lib.hid B9
              go_wp2_with (first
                | (go_at_call 39; refine (F1.out _).mono ?_; rintro e w4 ⟨rfl, rfl⟩)
                | (go_at_call 41; refine (C1.out mv hmv8 _).mono ?_; rintro e w5 ⟨ck, rfl, hck, hcd, rfl⟩)
                | (go_at_call 40; refine (P1.out ck (by omega) _).mono ?_; rintro e w6 ⟨rfl, hb6⟩))
              have BB := nextB B0.out hb6
              have hbx := nextB B9.out hb6
              have hck2 := hst.out s' hs' ck hck hcd 119 (by omega) (by omega)
              rw [hd.out] at hck2
              have A1 := AN.out ba bc hbc ck hck
              have s1s : (setS s' ck 119).size = m := by rw [setS_size]; exact hs'
              have s1I : ((setS s' ck 119).size : Int) = (m : Int) := by omega
              have H0 := HC.out s' ck hS'.out hck hcd
              have X2 := hst.out _ s1s
              have CH1 := CH.out _ s1s
              have CN1 := Lib.hid (CN.out _ s1s)
              have PD1 := PD.out (setS s' ck 119)
              have PN1 := Lib.hid (PN.out (setS s' ck 119))
              generalize setS s' ck 119 = s1 at *
              replace hcd := Lib.hid hcd
              replace hck2 := Lib.hid hck2
              replace X2 := Lib.hid X2
              rcases H0 with ⟨t, ha, htm, ht46, hel⟩ | ⟨hv, hel0, helj⟩
              · rw [ha] at A1
                have hts : t < s1.size := by omega
                have hbk : (s1[t]'hts).toNat = 46 := by unfold bytA at ht46; rw [dif_pos hts] at ht46; exact ht46
                have hkI : (t : Int) < (m : Int) := by omega
                have hk00 : ¬ ((t : Int) < 0) := by omega
                have hk02 : ¬ ((t : Int) < -1) := by omega
                have hk01 : ¬ ((m : Int) ≤ (t : Int)) := by omega
                have PP := Lib.hid (PD1 t (by omega))
                replace ha := Lib.hid ha
                replace hel := Lib.hid hel
                have ht47 := Lib.hid ht46
                clear ht46 CH1
                refine (A1 _ (hI.out.next BB) (hbp.out.next hbx)).mono ?_
                rintro e w7 ⟨rfl, hb7⟩
                go_wp2_with (first
                  | (go_at_call 40; refine (PP.out _).mono ?_; rintro e w8 ⟨rfl, hb8⟩))
                go_roundw
                case rel =>
                  have h7 := X2.out t htm ht47.out 100 (by omega) (by omega)
                  have h8 := hck2.out
                  exact ⟨_, k + 1, rfl, by go_num, by omega, hel.out, nextB (nextB BB hb7) hb8, nextB (nextB hbx hb7) hb8⟩
                case measure =>
                  have h7 := X2.out t htm ht47.out 100 (by omega) (by omega)
                  have h8 := hck2.out
                  show dotN (setS s1 t 100) m < dotN s' m
                  rw [hd.out]; omega
              · replace hel0 := Lib.hid hel0
                replace helj := Lib.hid helj
                by_cases hz1 : dotN s1 m = 0
                · have CC := Lib.hid (CN1.out hz1)
                  replace hz1 := Lib.hid hz1
                  clear CH1 PD1
                  rcases hv with ha | ⟨t, ha, htm, ht46⟩
                  · rw [ha] at A1
                    replace ha := Lib.hid ha
                    have hm0 : ¬ ((m : Int) ≤ -1) := by omega
                    refine (A1 _ (hI.out.next BB) (hbp.out.next hbx)).mono ?_
                    rintro e w7 ⟨rfl, hb7⟩
                    go_wp2_with (first
                      | (go_at_call 41; refine (CC.out _).mono ?_; rintro e w9 ⟨rfl, rfl⟩)
                      | (go_at_call 40; refine (PN1.out _).mono ?_; rintro e w8 ⟨rfl, hb8⟩))
                    go_roundw
                    case rel =>
                      have h8 := hck2.out
                      exact ⟨_, k + 1, rfl, by go_num, by omega, hel0.out, nextB (nextB BB hb7) hb8, nextB (nextB hbx hb7) hb8⟩
                    case measure =>
                      have h8 := hck2.out
                      show dotN s1 m < dotN s' m
                      rw [hd.out]; omega
                  · rw [ha] at A1
                    replace ha := Lib.hid ha
                    have hts : t < s1.size := by omega
                    have hbt : bytA s1 t = (s1[t]'hts).toNat := by unfold bytA; rw [dif_pos hts]
                    have ct : (((s1[t]'hts).toNat : Int) != 46) = true := by rw [bne_iff_ne]; omega
                    have ct2 : (((s1[t]'hts).toNat : Int) == 46) = false := by rw [beq_eq_false_iff_ne]; omega
                    have hkI : (t : Int) < (m : Int) := by omega
                    have hk00 : ¬ ((t : Int) < 0) := by omega
                    have hk02 : ¬ ((t : Int) < -1) := by omega
                    have hk01 : ¬ ((m : Int) ≤ (t : Int)) := by omega
                    clear ht46 hbt
                    refine (A1 _ (hI.out.next BB) (hbp.out.next hbx)).mono ?_
                    rintro e w7 ⟨rfl, hb7⟩
                    go_wp2_with (first
                      | (go_at_call 41; refine (CC.out _).mono ?_; rintro e w9 ⟨rfl, rfl⟩)
                      | (go_at_call 40; refine (PN1.out _).mono ?_; rintro e w8 ⟨rfl, hb8⟩))
                    go_roundw
                    case rel =>
                      have h8 := hck2.out
                      exact ⟨_, k + 1, rfl, by go_num, by omega, hel0.out, nextB (nextB BB hb7) hb8, nextB (nextB hbx hb7) hb8⟩
                    case measure =>
                      have h8 := hck2.out
                      show dotN s1 m < dotN s' m
                      rw [hd.out]; omega
                · have CC := Lib.hid (CH1 0 (by omega) hz1)
                  replace hz1 := Lib.hid hz1
                  replace PD1 := Lib.hid PD1
                  clear CH1
                  rcases hv with ha | ⟨t, ha, htm, ht46⟩
                  · rw [ha] at A1
                    replace ha := Lib.hid ha
                    have hm0 : ¬ ((m : Int) ≤ -1) := by omega
                    refine (A1 _ (hI.out.next BB) (hbp.out.next hbx)).mono ?_
                    rintro e w7 ⟨rfl, hb7⟩
                    go_wp2_with (first
                      | (go_at_call 41; refine (CC.out _).mono ?_; rintro e w9 ⟨cj, rfl, hcj, hcjd, rfl⟩)
                      | (go_at_call 40; refine (PD1.out cj (by omega) _).mono ?_; rintro e w8 ⟨rfl, hb8⟩))
                    go_roundw
                    case rel =>
                      have h7 := X2.out cj hcj hcjd 100 (by omega) (by omega)
                      have h8 := hck2.out
                      exact ⟨_, k + 1, rfl, by go_num, by omega, helj.out cj hcj hcjd, nextB (nextB BB hb7) hb8, nextB (nextB hbx hb7) hb8⟩
                    case measure =>
                      have h7 := X2.out cj hcj hcjd 100 (by omega) (by omega)
                      have h8 := hck2.out
                      show dotN (setS s1 cj 100) m < dotN s' m
                      rw [hd.out]; omega
                  · rw [ha] at A1
                    replace ha := Lib.hid ha
                    have hts : t < s1.size := by omega
                    have hbt : bytA s1 t = (s1[t]'hts).toNat := by unfold bytA; rw [dif_pos hts]
                    have ct : (((s1[t]'hts).toNat : Int) != 46) = true := by rw [bne_iff_ne]; omega
                    have ct2 : (((s1[t]'hts).toNat : Int) == 46) = false := by rw [beq_eq_false_iff_ne]; omega
                    have hkI : (t : Int) < (m : Int) := by omega
                    have hk00 : ¬ ((t : Int) < 0) := by omega
                    have hk02 : ¬ ((t : Int) < -1) := by omega
                    have hk01 : ¬ ((m : Int) ≤ (t : Int)) := by omega
                    clear ht46 hbt
                    refine (A1 _ (hI.out.next BB) (hbp.out.next hbx)).mono ?_
                    rintro e w7 ⟨rfl, hb7⟩
                    go_wp2_with (first
                      | (go_at_call 41; refine (CC.out _).mono ?_; rintro e w9 ⟨cj, rfl, hcj, hcjd, rfl⟩)
                      | (go_at_call 40; refine (PD1.out cj (by omega) _).mono ?_; rintro e w8 ⟨rfl, hb8⟩))
                    go_roundw
                    case rel =>
                      have h7 := X2.out cj hcj hcjd 100 (by omega) (by omega)
                      have h8 := hck2.out
                      exact ⟨_, k + 1, rfl, by go_num, by omega, helj.out cj hcj hcjd, nextB (nextB BB hb7) hb8, nextB (nextB hbx hb7) hb8⟩
                    case measure =>
                      have h7 := X2.out cj hcj hcjd 100 (by omega) (by omega)
                      have h8 := hck2.out
                      show dotN (setS s1 cj 100) m < dotN s' m
                      rw [hd.out]; omega
            · have hmvI : ¬ ((k : Int) < (n4 : Int)) := by omega
              replace B0 := Lib.hid B0
              replace B9 := Lib.hid B9
              go_wp2_with (first
                | (go_at_call 39; refine (F1.out _).mono ?_; rintro e w4 ⟨rfl, rfl⟩)
                | (go_at_call 41; refine (C1.out 0 (by omega) _).mono ?_; rintro e w5 ⟨ck, rfl, hck, hcd, rfl⟩)
                | (go_at_call 40; refine (P1.out ck (by omega) _).mono ?_; rintro e w6 ⟨rfl, hb6⟩))
              have BB := nextB B0.out hb6
              have hbx := nextB B9.out hb6
              have hck2 := hst.out s' hs' ck hck hcd 119 (by omega) (by omega)
              rw [hd.out] at hck2
              have A1 := AN.out ba bc hbc ck hck
              have s1s : (setS s' ck 119).size = m := by rw [setS_size]; exact hs'
              have s1I : ((setS s' ck 119).size : Int) = (m : Int) := by omega
              have H0 := HC.out s' ck hS'.out hck hcd
              have X2 := hst.out _ s1s
              have CH1 := CH.out _ s1s
              have CN1 := Lib.hid (CN.out _ s1s)
              have PD1 := PD.out (setS s' ck 119)
              have PN1 := Lib.hid (PN.out (setS s' ck 119))
              generalize setS s' ck 119 = s1 at *
              replace hcd := Lib.hid hcd
              replace hck2 := Lib.hid hck2
              replace X2 := Lib.hid X2
              rcases H0 with ⟨t, ha, htm, ht46, hel⟩ | ⟨hv, hel0, helj⟩
              · rw [ha] at A1
                have hts : t < s1.size := by omega
                have hbk : (s1[t]'hts).toNat = 46 := by unfold bytA at ht46; rw [dif_pos hts] at ht46; exact ht46
                have hkI : (t : Int) < (m : Int) := by omega
                have hk00 : ¬ ((t : Int) < 0) := by omega
                have hk02 : ¬ ((t : Int) < -1) := by omega
                have hk01 : ¬ ((m : Int) ≤ (t : Int)) := by omega
                have PP := Lib.hid (PD1 t (by omega))
                replace ha := Lib.hid ha
                replace hel := Lib.hid hel
                have ht47 := Lib.hid ht46
                clear ht46 CH1
                refine (A1 _ (hI.out.next BB) (hbp.out.next hbx)).mono ?_
                rintro e w7 ⟨rfl, hb7⟩
                go_wp2_with (first
                  | (go_at_call 40; refine (PP.out _).mono ?_; rintro e w8 ⟨rfl, hb8⟩))
                go_roundw
                case rel =>
                  have h7 := X2.out t htm ht47.out 100 (by omega) (by omega)
                  have h8 := hck2.out
                  exact ⟨_, k + 1, rfl, by go_num, by omega, hel.out, nextB (nextB BB hb7) hb8, nextB (nextB hbx hb7) hb8⟩
                case measure =>
                  have h7 := X2.out t htm ht47.out 100 (by omega) (by omega)
                  have h8 := hck2.out
                  show dotN (setS s1 t 100) m < dotN s' m
                  rw [hd.out]; omega
              · replace hel0 := Lib.hid hel0
                replace helj := Lib.hid helj
                by_cases hz1 : dotN s1 m = 0
                · have CC := Lib.hid (CN1.out hz1)
                  replace hz1 := Lib.hid hz1
                  clear CH1 PD1
                  rcases hv with ha | ⟨t, ha, htm, ht46⟩
                  · rw [ha] at A1
                    replace ha := Lib.hid ha
                    have hm0 : ¬ ((m : Int) ≤ -1) := by omega
                    refine (A1 _ (hI.out.next BB) (hbp.out.next hbx)).mono ?_
                    rintro e w7 ⟨rfl, hb7⟩
                    go_wp2_with (first
                      | (go_at_call 41; refine (CC.out _).mono ?_; rintro e w9 ⟨rfl, rfl⟩)
                      | (go_at_call 40; refine (PN1.out _).mono ?_; rintro e w8 ⟨rfl, hb8⟩))
                    go_roundw
                    case rel =>
                      have h8 := hck2.out
                      exact ⟨_, k + 1, rfl, by go_num, by omega, hel0.out, nextB (nextB BB hb7) hb8, nextB (nextB hbx hb7) hb8⟩
                    case measure =>
                      have h8 := hck2.out
                      show dotN s1 m < dotN s' m
                      rw [hd.out]; omega
                  · rw [ha] at A1
                    replace ha := Lib.hid ha
                    have hts : t < s1.size := by omega
                    have hbt : bytA s1 t = (s1[t]'hts).toNat := by unfold bytA; rw [dif_pos hts]
                    have ct : (((s1[t]'hts).toNat : Int) != 46) = true := by rw [bne_iff_ne]; omega
                    have ct2 : (((s1[t]'hts).toNat : Int) == 46) = false := by rw [beq_eq_false_iff_ne]; omega
                    have hkI : (t : Int) < (m : Int) := by omega
                    have hk00 : ¬ ((t : Int) < 0) := by omega
                    have hk02 : ¬ ((t : Int) < -1) := by omega
                    have hk01 : ¬ ((m : Int) ≤ (t : Int)) := by omega
                    clear ht46 hbt
                    refine (A1 _ (hI.out.next BB) (hbp.out.next hbx)).mono ?_
                    rintro e w7 ⟨rfl, hb7⟩
                    go_wp2_with (first
                      | (go_at_call 41; refine (CC.out _).mono ?_; rintro e w9 ⟨rfl, rfl⟩)
                      | (go_at_call 40; refine (PN1.out _).mono ?_; rintro e w8 ⟨rfl, hb8⟩))
                    go_roundw
                    case rel =>
                      have h8 := hck2.out
                      exact ⟨_, k + 1, rfl, by go_num, by omega, hel0.out, nextB (nextB BB hb7) hb8, nextB (nextB hbx hb7) hb8⟩
                    case measure =>
                      have h8 := hck2.out
                      show dotN s1 m < dotN s' m
                      rw [hd.out]; omega
                · have CC := Lib.hid (CH1 0 (by omega) hz1)
                  replace hz1 := Lib.hid hz1
                  replace PD1 := Lib.hid PD1
                  clear CH1
                  rcases hv with ha | ⟨t, ha, htm, ht46⟩
                  · rw [ha] at A1
                    replace ha := Lib.hid ha
                    have hm0 : ¬ ((m : Int) ≤ -1) := by omega
                    refine (A1 _ (hI.out.next BB) (hbp.out.next hbx)).mono ?_
                    rintro e w7 ⟨rfl, hb7⟩
                    go_wp2_with (first
                      | (go_at_call 41; refine (CC.out _).mono ?_; rintro e w9 ⟨cj, rfl, hcj, hcjd, rfl⟩)
                      | (go_at_call 40; refine (PD1.out cj (by omega) _).mono ?_; rintro e w8 ⟨rfl, hb8⟩))
                    go_roundw
                    case rel =>
                      have h7 := X2.out cj hcj hcjd 100 (by omega) (by omega)
                      have h8 := hck2.out
                      exact ⟨_, k + 1, rfl, by go_num, by omega, helj.out cj hcj hcjd, nextB (nextB BB hb7) hb8, nextB (nextB hbx hb7) hb8⟩
                    case measure =>
                      have h7 := X2.out cj hcj hcjd 100 (by omega) (by omega)
                      have h8 := hck2.out
                      show dotN (setS s1 cj 100) m < dotN s' m
                      rw [hd.out]; omega
                  · rw [ha] at A1
                    replace ha := Lib.hid ha
                    have hts : t < s1.size := by omega
                    have hbt : bytA s1 t = (s1[t]'hts).toNat := by unfold bytA; rw [dif_pos hts]
                    have ct : (((s1[t]'hts).toNat : Int) != 46) = true := by rw [bne_iff_ne]; omega
                    have ct2 : (((s1[t]'hts).toNat : Int) == 46) = false := by rw [beq_eq_false_iff_ne]; omega
                    have hkI : (t : Int) < (m : Int) := by omega
                    have hk00 : ¬ ((t : Int) < 0) := by omega
                    have hk02 : ¬ ((t : Int) < -1) := by omega
                    have hk01 : ¬ ((m : Int) ≤ (t : Int)) := by omega
                    clear ht46 hbt
                    refine (A1 _ (hI.out.next BB) (hbp.out.next hbx)).mono ?_
                    rintro e w7 ⟨rfl, hb7⟩
                    go_wp2_with (first
                      | (go_at_call 41; refine (CC.out _).mono ?_; rintro e w9 ⟨cj, rfl, hcj, hcjd, rfl⟩)
                      | (go_at_call 40; refine (PD1.out cj (by omega) _).mono ?_; rintro e w8 ⟨rfl, hb8⟩))
                    go_roundw
                    case rel =>
                      have h7 := X2.out cj hcj hcjd 100 (by omega) (by omega)
                      have h8 := hck2.out
                      exact ⟨_, k + 1, rfl, by go_num, by omega, helj.out cj hcj hcjd, nextB (nextB BB hb7) hb8, nextB (nextB hbx hb7) hb8⟩
                    case measure =>
                      have h7 := X2.out cj hcj hcjd 100 (by omega) (by omega)
                      have h8 := hck2.out
                      show dotN (setS s1 cj 100) m < dotN s' m
                      rw [hd.out]; omega

end Go.Proofs.YtgafmloljcgnoaaDoor
