/- Layer 3, by the program: IsTrade. -/
import Derived.Test.YtnnndooagpkgmaaWu
namespace Go.Proofs.Ytnnndooagpkgmaa
open Go Go.RowKit

section
variable (x : Int) (a : Option Addr) (n c m : Nat) (R : List Int) (sv : Nat → Int) (w : World)
theorem IsTrade_no (h : Ints w a R) (hl : R.length = m) (hm : m ≤ 1000) (hmc : m ≤ c) (hR : ¬ RuleI x R) :
    Calls Try.prog 38 #[.int .i64 x, .slice a m c, quadS sv] w (Ret (errV (.bool false)) w) := by
  have K := Lib.hid (fun W hW => gor_no a m c x R W hW hl hm hmc hR)
  have h := Lib.hid h
  clear hl hR
  go_enter Try.func38, Try.ntmps38
  go_wp2_with (go_at_call 56; refine (K.out _ (h.out.next (b1 _ _))).mono ?_; rintro e w1 ⟨rfl, hb1⟩)
  go_ret2
  exact Ret.mk rfl (nextB (b1 _ _) (nextB hb1 (b1 _ _)))
set_option maxRecDepth 100000 in
set_option maxHeartbeats 8000000 in
theorem IsTrade_yes (h : Ints w a R) (hl : R.length = m) (hm : m ≤ 1000) (hmc : m ≤ c) (hR : RuleP n R) :
    Calls Try.prog 38 #[.int .i64 (n : Nat), .slice a m c, quadS sv] w (Ret (istV (hasOne R) (pw n) sv) w) := by
  have h8 : n ≤ 8 := by have := hR.2.1; omega
  have AK := Lib.hid (fun B N s W => knows_any n B N s W h8)
  have T := Lib.hid (fun B a0 b0 c0 d0 W hW (h0 : a0 < pw n) (h1 : b0 < pw n) (h2 : c0 < pw n) (h3 : d0 < pw n) => isTrade_any n B a0 b0 c0 d0 (hasOne R) W h8 h0 h1 h2 h3 hW)
  have X := Lib.hid (Blk.new w 49 (quadC sv))
  have hbad := Lib.hid (fun k hk hh => istV_bad (P := hasOne R) (N := pw n) (sv := sv) (k := k) hk hh)
  have hgood : Hid (okS sv (pw n) 4 → istV (hasOne R) (pw n) sv = .tuple #[.bool (tradeB (hasOne R) (sv 0).toNat (sv 1).toNat (sv 2).toNat (sv 3).toNat), .int .i64 0]) := Lib.hid fun hh => if_pos hh
  obtain ⟨N, hN⟩ : ∃ N, Hid (pw n = N) := ⟨_, Lib.hid rfl⟩
  have K := Lib.hid (fun W hW => gor_at a n c W m R hW hl hm hmc hR N hN.out)
  rw [hN.out] at AK T hbad hgood ⊢
  generalize istV (hasOne R) N sv = res at *
  generalize hasOne R = P at *
  have ix0 : ∀ (x y z u : Int) (W : World), (Instr.index 49 (.agg #[.int .i64 x, .int .i64 y, .int .i64 z, .int .i64 u]) (.int .i64 0)).run Try.prog W = .ok (.int .i64 x) W := fun _ _ _ _ _ => by kernel_rfl
  have ix1 : ∀ (x y z u : Int) (W : World), (Instr.index 49 (.agg #[.int .i64 x, .int .i64 y, .int .i64 z, .int .i64 u]) (.int .i64 1)).run Try.prog W = .ok (.int .i64 y) W := fun _ _ _ _ _ => by kernel_rfl
  have ix2 : ∀ (x y z u : Int) (W : World), (Instr.index 49 (.agg #[.int .i64 x, .int .i64 y, .int .i64 z, .int .i64 u]) (.int .i64 2)).run Try.prog W = .ok (.int .i64 z) W := fun _ _ _ _ _ => by kernel_rfl
  have ix3 : ∀ (x y z u : Int) (W : World), (Instr.index 49 (.agg #[.int .i64 x, .int .i64 y, .int .i64 z, .int .i64 u]) (.int .i64 3)).run Try.prog W = .ok (.int .i64 u) W := fun _ _ _ _ _ => by kernel_rfl
  have h := Lib.hid h
  clear hl hm hR hmc
  go_enter Try.func38, Try.ntmps38
  go_wp2_with (go_at_call 56; refine (K.out _ (h.out.next (b1 _ _))).mono ?_; rintro e w1 ⟨B, rfl, hg, hBo, hb1⟩; replace hBo := Lib.hid (hBo.next (b1 w1 (.cells #[.int .i64 (n : Nat), .slice (some ⟨B, 0, none⟩) N N] 60))); have hg0 := Lib.hid (Blk.new w1 60 #[.int .i64 (n : Nat), .slice (some ⟨B, 0, none⟩) N N]); have X1 := Lib.hid ((X.out.ext hb1).alloc (.cells #[.int .i64 (n : Nat), .slice (some ⟨B, 0, none⟩) N N] 60)); have x0 : _ = some (Value.int .i64 (sv 0)) := X1.out.c 0 rfl; have x1 : _ = some (Value.int .i64 (sv 1)) := X1.out.c 1 rfl; have x2 : _ = some (Value.int .i64 (sv 2)) := X1.out.c 2 rfl; have x3 : _ = some (Value.int .i64 (sv 3)) := X1.out.c 3 rfl)
  have B1 := nextB (b1 w (.cells (quadC sv) 49)) (nextB hb1 (b1 w1 (.cells #[.int .i64 (n : Nat), .slice (some ⟨B, 0, none⟩) N N] 60)))
  clear hb1 x0 x1 x2 x3
  generalize w1.heap.size = z at *
  go_loopw [11, 21] (fun _ i wr => ∃ k : Nat, k ≤ 4 ∧ i = .int .i64 k ∧ okS sv N k ∧ Blk wr w.heap.size 49 (quadC sv) ∧ Blk wr z 60 #[.int .i64 (n : Nat), .slice (some ⟨B, 0, none⟩) N N] ∧ Bools wr B N P ∧ Below w.heap.size w wr) (fun _ i _ => 4 - (intOf i).toNat)
  case atStart => exact ⟨0, by omega, rfl, fun j hj => absurd hj (by omega), X1.out, hg0.out, hBo.out, B1⟩
  case round =>
    clear X1 hg0 hBo B1
    obtain ⟨k, hk, rfl, hok, X1, hg0, hBo, B1⟩ := hrel
    replace hok := Lib.hid hok
    have g0 := hg0.c 0 rfl
    have g1 := hg0.c 1 rfl
    replace hg0 := Lib.hid hg0
    replace hBo := Lib.hid hBo
    have hk5 : k = 0 ∨ k = 1 ∨ k = 2 ∨ k = 3 ∨ k = 4 := by omega
    rcases hk5 with rfl | rfl | rfl | rfl | rfl
    · have hbk := Lib.hid (hbad.out 0 (by omega))
      have hnx : Hid (0 ≤ sv 0 ∧ sv 0 < (N : Int) → okS sv N 1) := Lib.hid (fun hh => lt_succ_all hok.out hh)
      have A1 := Lib.hid (fun W => AK.out B N (sv 0) W)
      replace X1 := Lib.hid X1
      by_cases hin : 0 ≤ sv 0 ∧ sv 0 < (N : Int)
      · have hnx2 := Lib.hid (hnx.out hin)
        rw [decide_eq_true hin] at A1
        clear hin
        go_wp2_with (go_at_call 44; refine (A1.out _).mono ?_; rintro e w2 ⟨rfl, hb2⟩)
        go_roundw
        case rel => exact ⟨1, by omega, by go_num, hnx2.out, X1.out.ext hb2, hg0.out.ext hb2, hBo.out.next hb2, nextB B1 hb2⟩
        case measure => simp [intOf]
      · have hres := Lib.hid (hbk.out hin)
        rw [decide_eq_false hin] at A1
        clear hin
        go_wp2_with (go_at_call 44; refine (A1.out _).mono ?_; rintro e w2 ⟨rfl, hb2⟩)
        go_ret2
        exact Ret.mk (show errV (.bool false) = _ by rw [hres.out]) (nextB B1 hb2)
    · have hbk := Lib.hid (hbad.out 1 (by omega))
      have hnx : Hid (0 ≤ sv 1 ∧ sv 1 < (N : Int) → okS sv N 2) := Lib.hid (fun hh => lt_succ_all hok.out hh)
      have A1 := Lib.hid (fun W => AK.out B N (sv 1) W)
      replace X1 := Lib.hid X1
      by_cases hin : 0 ≤ sv 1 ∧ sv 1 < (N : Int)
      · have hnx2 := Lib.hid (hnx.out hin)
        rw [decide_eq_true hin] at A1
        clear hin
        go_wp2_with (go_at_call 44; refine (A1.out _).mono ?_; rintro e w2 ⟨rfl, hb2⟩)
        go_roundw
        case rel => exact ⟨2, by omega, by go_num, hnx2.out, X1.out.ext hb2, hg0.out.ext hb2, hBo.out.next hb2, nextB B1 hb2⟩
        case measure => simp [intOf]
      · have hres := Lib.hid (hbk.out hin)
        rw [decide_eq_false hin] at A1
        clear hin
        go_wp2_with (go_at_call 44; refine (A1.out _).mono ?_; rintro e w2 ⟨rfl, hb2⟩)
        go_ret2
        exact Ret.mk (show errV (.bool false) = _ by rw [hres.out]) (nextB B1 hb2)
    · have hbk := Lib.hid (hbad.out 2 (by omega))
      have hnx : Hid (0 ≤ sv 2 ∧ sv 2 < (N : Int) → okS sv N 3) := Lib.hid (fun hh => lt_succ_all hok.out hh)
      have A1 := Lib.hid (fun W => AK.out B N (sv 2) W)
      replace X1 := Lib.hid X1
      by_cases hin : 0 ≤ sv 2 ∧ sv 2 < (N : Int)
      · have hnx2 := Lib.hid (hnx.out hin)
        rw [decide_eq_true hin] at A1
        clear hin
        go_wp2_with (go_at_call 44; refine (A1.out _).mono ?_; rintro e w2 ⟨rfl, hb2⟩)
        go_roundw
        case rel => exact ⟨3, by omega, by go_num, hnx2.out, X1.out.ext hb2, hg0.out.ext hb2, hBo.out.next hb2, nextB B1 hb2⟩
        case measure => simp [intOf]
      · have hres := Lib.hid (hbk.out hin)
        rw [decide_eq_false hin] at A1
        clear hin
        go_wp2_with (go_at_call 44; refine (A1.out _).mono ?_; rintro e w2 ⟨rfl, hb2⟩)
        go_ret2
        exact Ret.mk (show errV (.bool false) = _ by rw [hres.out]) (nextB B1 hb2)
    · have hbk := Lib.hid (hbad.out 3 (by omega))
      have hnx : Hid (0 ≤ sv 3 ∧ sv 3 < (N : Int) → okS sv N 4) := Lib.hid (fun hh => lt_succ_all hok.out hh)
      have A1 := Lib.hid (fun W => AK.out B N (sv 3) W)
      replace X1 := Lib.hid X1
      by_cases hin : 0 ≤ sv 3 ∧ sv 3 < (N : Int)
      · have hnx2 := Lib.hid (hnx.out hin)
        rw [decide_eq_true hin] at A1
        clear hin
        go_wp2_with (go_at_call 44; refine (A1.out _).mono ?_; rintro e w2 ⟨rfl, hb2⟩)
        go_roundw
        case rel => exact ⟨4, by omega, by go_num, hnx2.out, X1.out.ext hb2, hg0.out.ext hb2, hBo.out.next hb2, nextB B1 hb2⟩
        case measure => simp [intOf]
      · have hres := Lib.hid (hbk.out hin)
        rw [decide_eq_false hin] at A1
        clear hin
        go_wp2_with (go_at_call 44; refine (A1.out _).mono ?_; rintro e w2 ⟨rfl, hb2⟩)
        go_ret2
        exact Ret.mk (show errV (.bool false) = _ by rw [hres.out]) (nextB B1 hb2)
    · have x0 : wr.cell? ⟨w.heap.size, 0, none⟩ = some (.int .i64 (sv 0)) := X1.c 0 rfl
      have x1 : wr.cell? ⟨w.heap.size, 1, none⟩ = some (.int .i64 (sv 1)) := X1.c 1 rfl
      have x2 : wr.cell? ⟨w.heap.size, 2, none⟩ = some (.int .i64 (sv 2)) := X1.c 2 rfl
      have x3 : wr.cell? ⟨w.heap.size, 3, none⟩ = some (.int .i64 (sv 3)) := X1.c 3 rfl
      replace X1 := Lib.hid X1
      have hres := hgood.out hok.out
      have o0 := hok.out 0 (by omega)
      have o1 := hok.out 1 (by omega)
      have o2 := hok.out 2 (by omega)
      have o3 := hok.out 3 (by omega)
      clear hbad hgood hok X AK
      generalize sv 0 = s0 at *
      generalize sv 1 = s1 at *
      generalize sv 2 = s2 at *
      generalize sv 3 = s3 at *
      obtain ⟨t0, rfl⟩ : ∃ t : Nat, s0 = t := ⟨s0.toNat, by omega⟩
      obtain ⟨t1, rfl⟩ : ∃ t : Nat, s1 = t := ⟨s1.toNat, by omega⟩
      obtain ⟨t2, rfl⟩ : ∃ t : Nat, s2 = t := ⟨s2.toNat, by omega⟩
      obtain ⟨t3, rfl⟩ : ∃ t : Nat, s3 = t := ⟨s3.toNat, by omega⟩
      simp only [Int.toNat_natCast] at hres
      have TT := Lib.hid (fun W hW => T.out B t0 t1 t2 t3 W hW (by omega) (by omega) (by omega) (by omega))
      generalize tradeB P t0 t1 t2 t3 = tb at *
      replace hres := Lib.hid hres
      clear o0 o1 o2 o3 T
      go_wp2_with (go_at_call 64; (with_reducible refine (TT.out _ hBo.out).mono ?_); rintro e w2 ⟨rfl, hb2⟩)
      go_ret2
      exact Ret.mk (show Value.tuple #[.bool tb, .int .i64 0] = _ by rw [hres.out]) (nextB B1 hb2)
end
end Go.Proofs.Ytnnndooagpkgmaa
