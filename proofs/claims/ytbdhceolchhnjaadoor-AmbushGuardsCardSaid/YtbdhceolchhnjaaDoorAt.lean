/- Layer 4, by the program: Needs. -/
import Derived.Test.YtbdhceolchhnjaaDoorAs
namespace Go.Proofs.YtbdhceolchhnjaaDoor
open Go Go.RowKit

theorem pos_left {m k : Nat} (h : k < pw m) : PosP m k 0 := ⟨h, pw_pos m, fun i _ => by simp⟩
set_option maxRecDepth 100000 in
set_option maxHeartbeats 4000000 in
theorem needs_any (m : Nat) (a : Option Addr) (n c : Nat) (R : List Int) (B : Nat) (w0 w : World) (hF : FieldP m R) (hn : R.length = n) (hst : StG m a R B w0 w) :
    Calls Tryd.prog 60 #[gV m a n c B] w (RetK m R B (.int .i64 (ndTo m R (pw m) : Nat)) w) := by
  rw [ndTo_full]
  have hlt := hst.km.lt
  have hm := hF.le
  have hp9 : pw m ≤ 512 := by have := pw_mono hF.le; have h4 : pw 9 = 512 := rfl; omega
  have hp1 := pw_pos m
  have A := Lib.hid (fun W => all_any m a n c hm W)
  have C := Lib.hid (fun k (hk : k < pw m) W => (cntF_high hk 9 hm) ▸ ones_any k (by omega) W)
  have WN := Lib.hid (fun k (hk : k < pw m) W (hs : StG m a R B w0 W) => (show Calls Tryd.prog 42 #[gV m a n c B, .agg #[.int .i64 (k : Nat), .int .i64 0, .int .i64 1]] W (RetK m R B (.int .i64 (sd (win m R k 0 true) : Nat)) W) from winner_any m a n c R B w0 hF hn _ k 0 1 W rfl hs (pos_left hk) (by omega)))
  have hle := Lib.hid (ndTo_le m R)
  have hcl := Lib.hid (fun k => cntF_le k m)
  have hst2 := Lib.hid (fun k => (show ndTo m R (k + 1) = if decide (cntF k m < ndTo m R k) && win m R k 0 true then cntF k m else ndTo m R k from rfl))
  have hst1 := hst.next (b1 w (.cells #[.int .i64 (m : Nat), .slice a n c, .map (some B)] 70))
  have hG := Blk.new w 70 #[.int .i64 (m : Nat), .slice a n c, .map (some B)]
  have hb := b1 w (.cells #[.int .i64 (m : Nat), .slice a n c, .map (some B)] 70)
  clear hst
  replace hst1 := Lib.hid hst1
  replace hF := Lib.hid hF
  obtain ⟨x0, x1, x2⟩ := hG.c3
  replace hG := Lib.hid hG
  obtain ⟨M, hM⟩ : ∃ M, Hid (m = M) := ⟨_, Lib.hid rfl⟩
  obtain ⟨N, hN⟩ : ∃ N, pw m = N + 1 := ⟨pw m - 1, by omega⟩
  rw [hN] at A C WN hp9 ⊢
  rw [show N + 1 - 1 = N by omega] at A ⊢
  clear hN hp1
  go_enter Tryd.func60, Tryd.ntmps60
  go_wp2_with (go_at_call 78; refine (A.out _).mono ?_; rintro e w2 ⟨rfl, hb2⟩)
  have hst3 := Lib.hid (hst1.out.next hb2)
  have hG2 := hG.out.ext hb2
  have hkk := Lib.hid (nextB hb hb2)
  clear hst1 hb2 hG x0 x1 x2 hb
  have hG3 := Lib.hid hG2
  clear hG2
  go_loopw [3, 4, 5, 12] (fun l _ _ i wr => ∃ k : Nat, k ≤ N ∧ i = .int .i64 k ∧ l = .int .i64 (ndTo m R k : Nat) ∧ Keep B w2 wr ∧ KM m R B wr) (fun _ _ _ i _ => N - (intOf i).toNat)
  case atStart => exact ⟨0, by omega, rfl, rfl, Keep.refl _ _, hst3.out.km⟩
  case round =>
    obtain ⟨k, hk, rfl, rfl, hK, hm1⟩ := hrel
    by_cases hkn : k < N
    · have hki : (k : Int) < (N : Int) := by omega
      have C1 := Lib.hid (C.out k (by omega))
      have W1 := Lib.hid (fun W hs => WN.out k (by omega) W hs)
      have hs2 := Lib.hid (hst2.out k)
      have l1 := hle.out k
      have l2 := hcl.out k
      have hcv : IntKind.u64.wrap (k : Int) = (k : Int) := by rw [IntKind.wrap_u64]; omega
      obtain ⟨x0, x1, x2⟩ := (hK.blk (by omega) hG3.out).c3
      have hst4 := Lib.hid (hst3.out.step hK hm1)
      generalize ndTo m R k = nd at *
      generalize cntF k m = ct at *
      obtain ⟨wn, hwn⟩ : ∃ b, Hid (win m R k 0 true = b) := ⟨_, Lib.hid rfl⟩
      rw [hwn.out] at W1 hs2
      replace hK := Lib.hid hK
      replace hm1 := Lib.hid hm1
      by_cases hlt2 : ct < nd
      · have d1 : decide ((ct : Int) < (nd : Int)) = true := decide_eq_true (by omega)
        have hd : Hid (decide (ct < nd) = true) := Lib.hid (decide_eq_true hlt2)
        rw [hd.out] at hs2
        cases wn
        · have hs3 := Lib.hid (hs2.out.trans (if_neg (by simp)))
          clear hs2
          go_wp2_with (first
            | (go_at_call 84; refine (C1.out _).mono ?_; rintro e w3 ⟨rfl, rfl⟩)
            | (go_at_call 42; refine (W1.out _ hst4.out).mono ?_; rintro e w4 ⟨rfl, hk4, hm4⟩; replace hk4 := Lib.hid hk4; replace hm4 := Lib.hid hm4))
          go_roundw
          case rel => exact ⟨k + 1, by omega, by go_num, by rw [hs3.out], hK.out.trans hk4.out, hm4.out⟩
          case measure => simp [intOf]; omega
        · have hs3 := Lib.hid (hs2.out.trans (if_pos rfl))
          clear hs2
          go_wp2_with (first
            | (go_at_call 84; refine (C1.out _).mono ?_; rintro e w3 ⟨rfl, rfl⟩)
            | (go_at_call 42; refine (W1.out _ hst4.out).mono ?_; rintro e w4 ⟨rfl, hk4, hm4⟩; replace hk4 := Lib.hid hk4; replace hm4 := Lib.hid hm4))
          go_roundw
          case rel => exact ⟨k + 1, by omega, by go_num, by rw [hs3.out], hK.out.trans hk4.out, hm4.out⟩
          case measure => simp [intOf]; omega
      · have d1 : decide ((ct : Int) < (nd : Int)) = false := decide_eq_false (by omega)
        have hd : Hid (decide (ct < nd) = false) := Lib.hid (decide_eq_false hlt2)
        rw [hd.out] at hs2
        have hs3 := Lib.hid (hs2.out.trans (if_neg (by simp)))
        clear hs2
        go_wp2_with (first
          | (go_at_call 84; refine (C1.out _).mono ?_; rintro e w3 ⟨rfl, rfl⟩))
        go_roundw
        case rel => exact ⟨k + 1, by omega, by go_num, by rw [hs3.out], hK.out, hm1.out⟩
        case measure => simp [intOf]; omega
    · obtain rfl : k = N := by omega
      go_wp2
      go_ret
      exact ⟨rfl, (Keep.of hkk.out).trans hK, hm1⟩
/-- What Needs returns. -/
def ndE (x : Int) (R : List Int) : Nat := if fE x R = 0 then (if R.length = 0 then 10 else 0) else fE x R
def ndI (x : Int) (R : List Int) : Nat := if ndE x R = 0 then ndTo x.toNat R (pw x.toNat) else 0
set_option maxRecDepth 100000 in
set_option maxHeartbeats 4000000 in
theorem Needs_any (x : Int) (a : Option Addr) (n c : Nat) (R : List Int) (w : World) (h : Ints w a R) (hn : R.length = n) (hT : Tab w) :
    Calls Tryd.prog 26 #[.int .i64 x, .slice a n c] w (Ret (.tuple #[.int .i64 (ndI x R : Nat), .int .i64 (ndE x R : Nat)]) w) := by
  have F := Lib.hid (fun W hW => nf_any x a n c R W hW hn)
  have hI := Lib.hid h
  have hTab := Lib.hid hT
  have hn' := Lib.hid hn
  clear h hT hn
  obtain ⟨e, he⟩ : ∃ e, Hid (fE x R = e) := ⟨_, Lib.hid rfl⟩
  obtain ⟨e2, he2⟩ : ∃ e, Hid (ndE x R = e) := ⟨_, Lib.hid rfl⟩
  obtain ⟨r, hr⟩ : ∃ r, Hid (ndI x R = r) := ⟨_, Lib.hid rfl⟩
  have he6 : e < 4 := by rw [← he.out]; exact fE_lt x R
  have hee : Hid (e2 = if e = 0 then (if R.length = 0 then 10 else 0) else e) := Lib.hid (by rw [← he2.out, ← he.out]; rfl)
  rw [he.out] at F
  rw [he2.out, hr.out]
  by_cases h1 : e = 0
  · subst h1
    simp only [if_true] at F
    obtain ⟨hx, hF⟩ := fE_ok he.out
    obtain ⟨m, hm⟩ : ∃ m, x.toNat = m := ⟨_, rfl⟩
    rw [hm] at hx hF F
    by_cases h0 : n = 0
    · have e5 : Hid (e2 = 10) := Lib.hid (by rw [hee.out, if_pos rfl, if_pos (by rw [hn'.out, h0])])
      have r5 : Hid (r = 0) := Lib.hid (by rw [← hr.out]; unfold ndI; rw [he2.out, if_neg (by rw [e5.out]; omega)])
      rw [e5.out, r5.out]
      clear hm
      subst hx
      have d0 : ((n : Int) == 0) = true := by rw [beq_iff_eq]; omega
      clear h0
      go_enter Tryd.func26, Tryd.ntmps26
      go_wp2_with (go_at_call 51; refine (F.out _ hI.out).mono ?_; rintro e w1 ⟨rfl, hb1⟩)
      go_ret2
      exact Ret.mk rfl (nextB hb1 (b1 _ _))
    · have e5 : Hid (e2 = 0) := Lib.hid (by rw [hee.out, if_pos rfl, if_neg (by rw [hn'.out]; exact h0)])
      have r5 : Hid (r = ndTo m R (pw m)) := Lib.hid (by rw [← hr.out]; unfold ndI; rw [he2.out, if_pos e5.out, hm])
      rw [e5.out, r5.out]
      clear hm
      subst hx
      have d0 : ((n : Int) == 0) = false := by rw [beq_eq_false_iff_ne]; omega
      have NG := Lib.hid (fun W => newGameA_any m a n c R W)
      have ND := Lib.hid (fun B W (hst : StG m a R B w W) => needs_any m a n c R B w W hF hn'.out hst)
      generalize ndTo m R (pw m) = q at *
      replace hF := Lib.hid hF
      go_enter Tryd.func26, Tryd.ntmps26
      go_wp2_with (first
        | (go_at_call 51; refine (F.out _ hI.out).mono ?_; rintro e w1 ⟨rfl, hb1⟩; have bw := Lib.hid (nextB hb1 (b1 w1 (.cells #[.int .i64 (m : Nat), .slice a n c] 60))))
        | (go_at_call 41; refine (NG.out _).mono ?_; rintro e w4 ⟨B, rfl, hB, hK, hb4⟩; replace hK := Lib.hid hK; have hlo := Nat.le_trans bw.out.size hB; have hst : Hid (StG m a R B w w4) := Lib.hid ⟨nextB bw.out hb4, hK.out, hlo, hI.out, hTab.out⟩)
        | (go_at_call 60; refine (ND.out _ _ hst.out).mono ?_; rintro e w5 ⟨rfl, hk5, hm5⟩))
      go_ret2
      exact Ret.mk rfl (hk5.below (nextB bw.out hb4) hlo)
  · have e5 : Hid (e2 = e) := Lib.hid (by rw [hee.out, if_neg h1])
    have r5 : Hid (r = 0) := Lib.hid (by rw [← hr.out]; unfold ndI; rw [he2.out, if_neg (by rw [e5.out]; exact h1)])
    rw [e5.out, r5.out]
    rw [if_neg h1] at F
    have d1 : ((e : Int) != 0) = true := by rw [bne_iff_ne]; omega
    go_enter Tryd.func26, Tryd.ntmps26
    go_wp2_with (go_at_call 51; refine (F.out _ hI.out).mono ?_; rintro e w1 ⟨rfl, hb1⟩)
    go_ret2
    exact Ret.mk rfl (nextB hb1 (b1 _ _))
end Go.Proofs.YtbdhceolchhnjaaDoor
