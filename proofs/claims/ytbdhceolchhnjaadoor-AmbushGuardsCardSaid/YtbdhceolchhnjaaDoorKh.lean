/- Layer 4, by the specification: Guards and Needs. -/
import Derived.Test.YtbdhceolchhnjaaDoorKd
import Derived.Test.YtbdhceolchhnjaaDoorGb
import Derived.Test.YtbdhceolchhnjaaDoorAt
import Derived.Test.YtbdhceolchhnjaaDoorHf
namespace Go.Proofs.YtbdhceolchhnjaaDoor
open Go Go.RowKit

theorem ownK {B base : Nat} {w w' : World} {v : Value} {n : Nat} {X : List Value} (h : w.ownsRow base 3 1 v n X) (hk : Keep B w w') (hne : B < base) : w'.ownsRow base 3 1 v n X := by
  refine ⟨h.1, ?_⟩
  rcases h.2 with h2 | ⟨g, cap, cur, hv, hb, hg, r⟩
  · exact .inl h2
  · exact .inr ⟨g, cap, cur, hv, hb, (hk.block g (Array.getElem?_eq_some_iff.1 hg).1 (by omega)).trans hg, r⟩
theorem StR.app {m : Nat} {a : Option Addr} {n c : Nat} {R : List Int} {G K b : Nat} {w0 w w' : World} (h : StR m a n c R G K w0 w) (hG : G < b) (hK : K < b) (hb : Below b w w') : StR m a n c R G K w0 w' := by
  have hlo := h.loG
  refine ⟨h.below.trans (hb.mono (by omega)), ?_, h.loG, h.loK, h.ne, (hb.block G hG).trans h.game, h.ints⟩
  obtain ⟨f, h1, h2⟩ := h.kn
  exact ⟨f, (hb.block K hK).trans h1, h2⟩
theorem frL_allK (m : Nat) : frL m 0 0 = List.range m := by
  unfold frL
  rw [List.filter_eq_self]
  intro x _
  unfold frB
  simp
theorem gd_kpK (m : Nat) (R : List Int) : gdL m R = kpF (wB m R 0 0 1) (List.range m) m := by
  unfold gdL kpF
  rw [frL_allK, List.take_of_length_le (by simp)]
set_option maxRecDepth 100000 in
set_option maxHeartbeats 4000000 in
theorem refGuards_any (m : Nat) (a : Option Addr) (n c : Nat) (R : List Int) (w : World) (hF : FieldP m R) (h : Ints w a R) (hn : R.length = n) :
    Calls Tryd.prog 25 #[.int .i64 (m : Nat), .slice a n c] w (NewIE (lNi (gdL m R)) w) := by
  have RF := Lib.hid (refField_any (m : Int) a n c R w h hn)
  rw [fE_field hF] at RF
  have hm9 := hF.le
  have NG := Lib.hid (fun W => refNew_any m a n c hm9 W)
  have hp0 : PosP m 0 0 := ⟨pw_pos m, pw_pos m, fun i hi => by simp at hi⟩
  have WN := Lib.hid (fun G K k (hk : k < m) W (hst : StR m a n c R G K w W) => (show Calls Tryd.prog 46 #[.pointer (some ⟨G, 0, none⟩), .int .i64 0, .int .i64 ((pw k : Nat) : Int), .int .i64 0] W (WoR m R K (.bool (win m R 0 (0 + pw k) false)) W) from by
    have := wolves_any m a n c R G K w hF hn _ 0 (0 + pw k) 0 W rfl hst (hp0.takeD (by rw [frL_allK]; exact List.mem_range.2 hk)) (by omega)
    rw [show (((0 + pw k : Nat)) : Int) = ((pw k : Nat) : Int) by omega] at this
    exact this))
  have MK := Lib.hid (fun G K w1 w2 hb h1 h2 hne hG hK hb2 => StR.made (m := m) (a := a) (n := n) (c := c) (R := R) (G := G) (K := K) (w := w) (w1 := w1) (w2 := w2) h hb h1 h2 hne hG hK hb2)
  have hpl2 := Lib.hid (fun k (hk : k < m) => (show pw k ≤ 512 from by have := pw_mono (show k ≤ 9 by omega); have h4 : pw 9 = 512 := rfl; omega))
  obtain ⟨q, hq⟩ : ∃ q, Hid (wB m R 0 0 1 = q) := ⟨_, Lib.hid rfl⟩
  have hstp : Hid (∀ k, k < m → ∀ b, win m R 0 (0 + pw k) false = b → kpF q (List.range m) (k + 1) = if b then kpF q (List.range m) k else kpF q (List.range m) k ++ [k]) := Lib.hid (fun k hk b hb => by
    have h1 := kpF_next (q := q) (l := List.range m) (j := k) (by simpa using hk)
    have hg : (List.range m).getD k 0 = k := by simp [hk]
    have h2 : q k = !b := by rw [← hq.out, wB_oneF (by rw [frL_allK]; exact List.mem_range.2 hk), hb]
    rw [hg, h2] at h1
    rw [h1]
    cases b <;> rfl)
  have hend : Hid (kpF q (List.range m) m = gdL m R) := Lib.hid (by rw [gd_kpK, hq.out])
  have hlen := Lib.hid (fun k => kpF_le q (List.range m) k)
  obtain ⟨i0, hi, hz0, hz1, hz2⟩ := info_parts infoInt'
  have G0 := Lib.hid hi
  have G1 := Lib.hid hz0
  have G2 := Lib.hid hz1
  have G3 := Lib.hid hz2
  clear hi hz0 hz1 hz2 hp0 hF h hn hq
  go_enter Tryd.func25, Tryd.ntmps25
  go_wp2_with (first
    | (go_at_call 31; refine RF.out.mono ?_; rintro e w1 ⟨rfl, hb1⟩)
    | (go_at_call 45; refine (NG.out _).mono ?_; rintro e w3 ⟨G, K, rfl, hG, hK, hne, hbG, hbK, hb3⟩; have hst := Lib.hid (MK.out G K _ _ hb1 hG hK hne hbG hbK hb3); have hGl := hbG.lt; have hKl := hbK.lt))
  have hs3 := (hst.out.below).size
  clear hbG hbK hb3 hb1 RF NG MK hG hK hne
  obtain ⟨bs, hbs⟩ : ∃ bs, w3.heap.size = bs := ⟨_, rfl⟩
  rw [hbs] at hGl hKl hs3
  go_loopw [8, 9] (fun v i wr => ∃ k : Nat, k ≤ m ∧ i = .int .i64 k ∧ StR m a n c R G K w wr ∧ wr.ownsRow bs 3 1 v (lNi (kpF q (List.range m) k)).length (lI (lNi (kpF q (List.range m) k))) ∧ bs ≤ wr.heap.size) (fun _ i _ => m - (intOf i).toNat)
  case atStart => exact ⟨0, by omega, rfl, hst.out, World.ownsRow_nil _ _ _ _, by omega⟩
  case round =>
    clear hst hbs
    obtain ⟨k, hk, rfl, hS, hown, hsz⟩ := hrel
    replace hS := Lib.hid hS
    by_cases hlk : k < m
    · have hki : (k : Int) < (m : Int) := by omega
      have shk := wrap_shl (k := k) (by omega)
      have hmk : min k 64 = k := by omega
      have hpk := hpl2.out k hlk
      have IHk := Lib.hid (WN.out G K k hlk wr hS.out)
      have hstk := Lib.hid (hstp.out k hlk)
      have hll := Lib.hid (show (lNi (kpF q (List.range m) k)).length ≤ k from by rw [lNi_len]; exact hlen.out k)
      generalize hpkk : pw k = pk at *
      clear hpkk
      cases hb : win m R 0 (0 + pk) false
      · rw [hb] at IHk
        have hst2 := Lib.hid (show lNi (kpF q (List.range m) (k + 1)) = lNi (kpF q (List.range m) k) ++ [(k : Int)] by rw [hstk.out false hb, if_neg (by simp), lNi_snoc])
        clear hstk hb
        generalize hL : lNi (kpF q (List.range m) k) = L at *
        generalize hL2 : lNi (kpF q (List.range m) (k + 1)) = L2 at *
        have hs2 := Lib.hid (show lI L ++ [.int .i64 (k : Int)] = lI (L ++ [(k : Int)]) by simp [lI])
        have hl9 := hll.out
        generalize hql : L.length = ql at *
        go_wp2_with (first
          | (go_at_call 46; refine IHk.out.mono ?_; rintro e w4 ⟨rfl, hK4, hN4⟩; have hown4 := ownK hown hK4 hKl; have hS4 := hS.out.step hK4 hN4; have hsz4 : bs ≤ w4.heap.size := Nat.le_trans hsz hK4.size; replace hN4 := Lib.hid hN4)
          | (at_builtin; refine wpList_append_own _ rfl _ _ 22 rfl bs 3 i0 (.int .i64 0) 1 8 Tryd.underlying22 G0.out G1.out G2.out G3.out rfl (by decide) _ _ _ rfl (hown4.alloc _) ⟨_, 0, none⟩ 1 1 [.int .i64 (k : Int)] rfl rfl (cell_one_new _ _ _) (by simp [Value.oneCell']) (by unfold maxLen; omega) (by omega) (by simp; omega) ?_; intro v' w5 hown5 hgrow _; rw [hs2.out] at hown5))
        have hgl := hown4.lt
        have B5 : Below bs w4 w5 := (((Below.refl w4.heap.size w4).mono hsz4).alloc hsz4 (.cells #[.int .i64 (k : Int)] 3)).grown hgrow (by simp; omega) (fun q' hq' => (hgl q' hq').1)
        go_roundw
        case rel => exact ⟨k + 1, by omega, by go_num, hS4.app hGl hKl B5, by rw [hL2, hst2.out, List.length_append, hql]; exact hown5, Nat.le_trans hsz4 B5.size⟩
        case measure => simp [intOf]; omega
      · rw [hb] at IHk
        have hst2 := Lib.hid (show kpF q (List.range m) (k + 1) = kpF q (List.range m) k by rw [hstk.out true hb, if_pos rfl])
        clear hstk hb
        go_wp2_with (go_at_call 46; refine IHk.out.mono ?_; rintro e w4 ⟨rfl, hK4, hN4⟩)
        go_roundw
        case rel => exact ⟨k + 1, by omega, by go_num, hS.out.step hK4 hN4, by rw [hst2.out]; exact ownK hown hK4 hKl, Nat.le_trans hsz hK4.size⟩
        case measure => simp [intOf]; omega
    · have hkm : k = m := by omega
      have hki : ¬ ((k : Int) < (m : Int)) := by omega
      rw [hkm, hend.out] at hown
      obtain ⟨a9, c9, rfl, _, hI9⟩ := own_intsA hown rfl
      replace hI9 := Lib.hid hI9
      clear hown
      go_wp2
      go_ret2
      exact ⟨a9, c9, rfl, hI9.out, hS.out.below⟩
set_option maxRecDepth 100000 in
set_option maxHeartbeats 4000000 in
theorem refNeeds_any (x : Int) (a : Option Addr) (n c : Nat) (R : List Int) (w : World) (h : Ints w a R) (hn : R.length = n) :
    Calls Tryd.prog 27 #[.int .i64 x, .slice a n c] w (Ret (.tuple #[.int .i64 (ndI x R : Nat), .int .i64 (ndE x R : Nat)]) w) := by
  have RF := Lib.hid (refField_any x a n c R w h hn)
  obtain ⟨e, he⟩ : ∃ e, fE x R = e := ⟨_, rfl⟩
  have he4 : e < 4 := by rw [← he]; exact fE_lt x R
  rw [he] at RF
  have hnE : ndE x R = if e = 0 then (if R.length = 0 then 10 else 0) else e := by unfold ndE; rw [he]
  have hnI : ndI x R = if ndE x R = 0 then ndTo x.toNat R (pw x.toNat) else 0 := rfl
  by_cases h1 : e = 0
  · subst h1
    rw [if_pos rfl] at hnE
    obtain ⟨hx, hF⟩ := fE_ok he
    obtain ⟨m, rfl⟩ : ∃ m : Nat, x = (m : Int) := ⟨x.toNat, hx⟩
    rw [Int.toNat_natCast] at hF hnI
    by_cases h0 : n = 0
    · rw [if_pos (by omega)] at hnE
      rw [hnE, if_neg (by omega)] at hnI
      rw [hnE, hnI]
      have d0 : ((n : Int) == 0) = true := by rw [beq_iff_eq]; omega
      clear h0 hnE hnI h hx
      go_enter Tryd.func27, Tryd.ntmps27
      go_wp2_with (go_at_call 31; refine RF.out.mono ?_; rintro e w1 ⟨rfl, hb1⟩)
      go_ret2
      exact Ret.mk rfl hb1
    · rw [if_neg (by omega)] at hnE
      rw [hnE, if_pos rfl] at hnI
      rw [hnE, hnI]
      have d0 : ((n : Int) == 0) = false := by rw [beq_eq_false_iff_ne]; omega
      have hm9 := hF.le
      have NG := Lib.hid (fun W => refNew_any m a n c hm9 W)
      have hp0 : ∀ s, s < pw m → PosP m s 0 := fun s hs => ⟨hs, pw_pos m, fun i _ => by simp⟩
      have WN := Lib.hid (fun G K s (hs : s < pw m) W (hst : StR m a n c R G K w W) => (show Calls Tryd.prog 46 #[.pointer (some ⟨G, 0, none⟩), .int .i64 (s : Nat), .int .i64 0, .int .i64 1] W (WoR m R K (.bool (win m R s 0 true)) W) from
        wolves_any m a n c R G K w hF hn _ s 0 1 W rfl hst (hp0 s hs) (by omega)))
      have MK := Lib.hid (fun G K w1 w2 hb h1 h2 hne hG hK hb2 => StR.made (m := m) (a := a) (n := n) (c := c) (R := R) (G := G) (K := K) (w := w) (w1 := w1) (w2 := w2) h hb h1 h2 hne hG hK hb2)
      have sh := wrap_shl (k := m) (by omega)
      have hmin : min m 64 = m := by omega
      have hpl : pw m ≤ 512 := by have := pw_mono hm9; have h4 : pw 9 = 512 := rfl; omega
      have hbt := Lib.hid (fun s k => bt_int s k)
      have hcl := Lib.hid (fun s k => cntF_le s k)
      have hb2 := Lib.hid (fun s k => bt_lt s k)
      have hnd0 : Hid (ndTo m R 0 = m) := Lib.hid rfl
      have hnds : Hid (∀ k, ndTo m R (k + 1) = if decide (cntF k m < ndTo m R k) && win m R k 0 true then cntF k m else ndTo m R k) := Lib.hid (fun k => rfl)
      have hndl := Lib.hid (fun k => ndTo_le m R k)
      have hc0 : Hid (∀ s, cntF s 0 = 0) := Lib.hid (fun _ => rfl)
      have hcs : Hid (∀ s k, cntF s (k + 1) = cntF s k + bt s k) := Lib.hid (fun _ _ => rfl)
      generalize hpm : pw m = pm at *
      replace hpm := Lib.hid hpm
      clear h0 hnE hnI h hn he hF hp0 hx
      go_enter Tryd.func27, Tryd.ntmps27
      go_wp2_with (first
        | (go_at_call 31; refine RF.out.mono ?_; rintro e w1 ⟨rfl, hb1⟩)
        | (go_at_call 45; refine (NG.out _).mono ?_; rintro e w3 ⟨G, K, rfl, hG, hK, hne, hbG, hbK, hb3⟩; have hst := Lib.hid (MK.out G K _ _ hb1 hG hK hne hbG hbK hb3)))
      clear hbG hbK hb3 hb1 RF NG MK hG hK hne
      go_loopw [8, 9] (fun v i wr => ∃ k : Nat, k ≤ pm ∧ i = .int .i64 k ∧ v = .int .i64 (ndTo m R k : Nat) ∧ StR m a n c R G K w wr) (fun _ i _ => pm - (intOf i).toNat)
      case atStart => exact ⟨0, by omega, rfl, by rw [hnd0.out], hst.out⟩
      case round =>
        clear hst
        obtain ⟨s, hs, rfl, rfl, hS⟩ := hrel
        replace hS := Lib.hid hS
        by_cases hlt : s < pm
        · have hki : (s : Int) < (pm : Int) := by omega
          have IHk := Lib.hid (WN.out G K s (by omega) wr hS.out)
          have hst1 := Lib.hid (hnds.out s)
          have hle := hndl.out s
          go_wp2
          go_loopw [10, 11] (fun v i wr' => ∃ k : Nat, k ≤ m ∧ i = .int .i64 k ∧ v = .int .i64 (cntF s k : Nat) ∧ wr' = wr) (fun _ i _ => m - (intOf i).toNat)
          case atStart => exact ⟨0, by omega, rfl, by rw [hc0.out]; rfl, rfl⟩
          case round =>
            obtain ⟨k, hk, rfl, rfl, rfl⟩ := hrel
            by_cases hlk : k < m
            · have hki2 : (k : Int) < (m : Int) := by omega
              have b1' := hbt.out s k
              have b2' := hb2.out s k
              have b3' := hcl.out s k
              have b4' := Lib.hid (hcs.out s k)
              have hmk : min k 64 = k := by omega
              generalize bt s k = bk at *
              go_wp2
              go_roundw
              case rel => exact ⟨k + 1, by omega, by go_num, by rw [b4'.out]; go_num, by first | rfl | trivial⟩
              case measure => simp [intOf]; omega
            · have hkm : k = m := by omega
              have hki2 : ¬ ((k : Int) < (m : Int)) := by omega
              rw [hkm]
              have b3' := hcl.out s m
              generalize hcc : cntF s m = cm at *
              generalize hnn : ndTo m R s = nd at *
              by_cases hlo : cm < nd
              · have hloi : (cm : Int) < (nd : Int) := by omega
                cases hb : win m R s 0 true
                all_goals
                  rw [hb] at IHk hst1
                  have hst2 := hst1.out
                  rw [decide_eq_true hlo] at hst2
                  simp only [Bool.and_true, Bool.and_false, Bool.false_eq_true, if_false, if_true] at hst2
                  replace hst2 := Lib.hid hst2
                  clear hst1
                  go_wp2_with (go_at_call 46; refine IHk.out.mono ?_; rintro e w4 ⟨rfl, hK4, hN4⟩)
                  go_roundw
                  case rel => exact ⟨s + 1, by omega, by go_num, by rw [hst2.out], hS.out.step hK4 hN4⟩
                  case measure => simp [intOf]; omega
              · have hloi : ¬ ((cm : Int) < (nd : Int)) := by omega
                have hst2 := hst1.out
                rw [decide_eq_false hlo] at hst2
                simp only [Bool.false_and, Bool.false_eq_true, if_false] at hst2
                replace hst2 := Lib.hid hst2
                clear hst1
                go_wp2
                go_roundw
                case rel => exact ⟨s + 1, by omega, by go_num, by rw [hst2.out], hS.out⟩
                case measure => simp [intOf]; omega
        · have hkm : s = pm := by omega
          have hki : ¬ ((s : Int) < (pm : Int)) := by omega
          rw [hkm]
          generalize ndTo m R pm = nd at *
          go_wp2
          go_ret2
          exact Ret.mk rfl hS.out.below
  · rw [if_neg h1] at hnE
    rw [hnE, if_neg h1] at hnI
    rw [hnE, hnI]
    have d1 : ((e : Int) != 0) = true := by rw [bne_iff_ne]; omega
    clear hnE hnI h he
    go_enter Tryd.func27, Tryd.ntmps27
    go_wp2_with (go_at_call 31; refine RF.out.mono ?_; rintro e w1 ⟨rfl, hb1⟩)
    go_ret2
    exact Ret.mk rfl hb1
end Go.Proofs.YtbdhceolchhnjaaDoor
