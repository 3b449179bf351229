/- Layer 3: IsTrade, by the specification and by the program. -/
import Derived.Test.YtnnndooagpkgmaaWt
namespace Go.Proofs.Ytnnndooagpkgmaa
open Go Go.RowKit

/-- Are the first k numbers sets? -/
def okS (sv : Nat → Int) (N k : Nat) : Prop := ∀ j, j < k → 0 ≤ sv j ∧ sv j < ((N : Nat) : Int)
instance (sv : Nat → Int) (N k : Nat) : Decidable (okS sv N k) := by unfold okS; infer_instance
abbrev quadS (sv : Nat → Int) : Value := .agg #[.int .i64 (sv 0), .int .i64 (sv 1), .int .i64 (sv 2), .int .i64 (sv 3)]
abbrev quadC (sv : Nat → Int) : Array Value := #[.int .i64 (sv 0), .int .i64 (sv 1), .int .i64 (sv 2), .int .i64 (sv 3)]
theorem quadC_get (sv : Nat → Int) {k : Nat} (h : k < 4) : (quadC sv)[k]? = some (.int .i64 (sv k)) := by
  match k, h with
  | 0, _ => rfl
  | 1, _ => rfl
  | 2, _ => rfl
  | 3, _ => rfl
/-- What IsTrade returns. -/
def istV (P : Nat → Bool) (N : Nat) (sv : Nat → Int) : Value := if okS sv N 4 then .tuple #[.bool (tradeB P (sv 0).toNat (sv 1).toNat (sv 2).toNat (sv 3).toNat), .int .i64 0] else errV (.bool false)
theorem istV_bad {P : Nat → Bool} {N : Nat} {sv : Nat → Int} {k : Nat} (hk : k < 4) (h : ¬ (0 ≤ sv k ∧ sv k < ((N : Nat) : Int))) : istV P N sv = errV (.bool false) := if_neg fun hh => h (hh k hk)
section
variable (x : Int) (a : Option Addr) (n c m : Nat) (R : List Int) (sv : Nat → Int) (w : World)
theorem refIsTrade_no (h : Ints w a R) (hl : R.length = m) (hm : m ≤ 1000) (hR : ¬ RuleI x R) :
    Calls Try.prog 39 #[.int .i64 x, .slice a m c, quadS sv] w (Ret (errV (.bool false)) w) := by
  have K := Lib.hid (fun W hW => refIsRule_any x a m c R W hW hl hm)
  rw [decide_eq_false hR] at K
  have h := Lib.hid h
  clear hl hR
  go_enter Try.func39, Try.ntmps39
  go_wp2_with (go_at_call 40; refine (K.out _ (h.out.next (b1 _ _))).mono ?_; rintro e w1 ⟨rfl, hb1⟩)
  go_ret2
  exact Ret.mk rfl (nextB (b1 _ _) hb1)
set_option maxRecDepth 100000 in
set_option maxHeartbeats 4000000 in
theorem refIsTrade_yes (h : Ints w a R) (hl : R.length = m) (hm : m ≤ 1000) (hR : RuleP n R) :
    Calls Try.prog 39 #[.int .i64 (n : Nat), .slice a m c, quadS sv] w (Ret (istV (hasOne R) (pw n) sv) w) := by
  have K := Lib.hid (fun W hW => refIsRule_any n a m c R W hW hl hm)
  rw [decide_eq_true (show RuleI (n : Int) R from ⟨by have := hR.1; omega, by simpa using hR⟩)] at K
  have h5 := hR.2.1
  have hp8 : pw n ≤ 256 := by have := pw_mono (show n ≤ 8 by omega); simpa [pw] using this
  have sh := wrap_shl (k := n) (by omega)
  have T := Lib.hid (fun a0 b0 c0 d0 W hW (h0 : a0 < pw n) (h1 : b0 < pw n) (h2 : c0 < pw n) (h3 : d0 < pw n) => refisTrade_any a m c n a0 b0 c0 d0 R W hW hl hm hR h0 h1 h2 h3)
  have X := Lib.hid (Blk.new w 49 (quadC sv))
  have hbad := Lib.hid (fun k hk hh => istV_bad (P := hasOne R) (N := pw n) (sv := sv) (k := k) hk hh)
  have hgood : Hid (okS sv (pw n) 4 → istV (hasOne R) (pw n) sv = .tuple #[.bool (tradeB (hasOne R) (sv 0).toNat (sv 1).toNat (sv 2).toNat (sv 3).toNat), .int .i64 0]) := Lib.hid fun hh => if_pos hh
  generalize istV (hasOne R) (pw n) sv = res at *
  generalize hasOne R = P at *
  generalize pw n = N at *
  have h := Lib.hid h
  clear hl hm hR
  go_enter Try.func39, Try.ntmps39
  go_wp2_with (go_at_call 40; refine (K.out _ (h.out.next (b1 _ _))).mono ?_; rintro e w1 ⟨rfl, hb1⟩)
  have X1 := X.out.ext hb1
  have B1 := nextB (b1 w (.cells (quadC sv) 49)) hb1
  clear hb1
  go_loopw [8] (fun i wr => ∃ k : Nat, k ≤ 4 ∧ i = .int .i64 k ∧ okS sv N k ∧ Blk wr w.heap.size 49 (quadC sv) ∧ Below w.heap.size w wr) (fun i _ => 4 - (intOf i).toNat)
  case atStart => exact ⟨0, by omega, rfl, fun j hj => absurd hj (by omega), X1, B1⟩
  case round =>
    clear X1 B1
    obtain ⟨k, hk, rfl, hok, X1, B1⟩ := hrel
    replace hok := Lib.hid hok
    by_cases hlt : k < 4
    · have hki : (k : Int) < 4 := by omega
      have x0 := cellX (X1.c k (quadC_get sv hlt))
      replace X1 := Lib.hid X1
      have hbk := Lib.hid (hbad.out k hlt)
      have hnx : Hid (0 ≤ sv k ∧ sv k < (N : Int) → okS sv N (k + 1)) := Lib.hid (fun hh => lt_succ_all hok.out hh)
      generalize sv k = s at *
      by_cases hneg : s < 0
      · have hres := Lib.hid (hbk.out (by omega))
        go_wp2
        refine wp_region_ext (by kernel_rfl) (by kernel_rfl) ?_
        repeat (go_big_quiet_step (fail))
        refine wpQuiet_nil ?_
        rintro ⟨w2, hw2⟩
        dsimp only
        clear x0
        go_wp2
        go_ret2
        exact Ret.mk (show errV (.bool false) = _ by rw [hres.out]) (nextB B1 hw2)
      · have hd : decide (s < 0) = false := decide_eq_false hneg
        have hn2 : 0 ≤ s := by omega
        clear hneg
        by_cases hbig : (N : Int) ≤ s
        · have hres := Lib.hid (hbk.out (by omega))
          have hd2 : decide ((N : Int) ≤ s) = true := decide_eq_true hbig
          go_wp2
          refine wp_region_ext (by kernel_rfl) (by kernel_rfl) ?_
          repeat (go_big_quiet_step (fail))
          refine wpQuiet_nil ?_
          rintro ⟨w2, hw2⟩
          dsimp only
          clear x0
          go_wp2
          go_ret2
          exact Ret.mk (show errV (.bool false) = _ by rw [hres.out]) (nextB B1 hw2)
        · have hok2 := Lib.hid (hnx.out (by omega))
          have hd2 : decide ((N : Int) ≤ s) = false := decide_eq_false hbig
          have hb2 : s < (N : Int) := by omega
          go_wp2
          refine wp_region_ext (by kernel_rfl) (by kernel_rfl) ?_
          repeat (go_big_quiet_step (fail))
          refine wpQuiet_nil ?_
          rintro ⟨w2, hw2⟩
          dsimp only
          clear x0
          go_wp2
          go_roundw
          case rel => exact ⟨k + 1, by omega, by go_num, hok2.out, X1.out.ext hw2, nextB B1 hw2⟩
          case measure => simp [intOf]; omega
    · obtain rfl : k = 4 := by omega
      have x0 : wr.cell? ⟨w.heap.size, 0, none⟩ = some (.int .i64 (sv 0)) := X1.c 0 rfl
      have x1 : wr.cell? ⟨w.heap.size, 1, none⟩ = some (.int .i64 (sv 1)) := X1.c 1 rfl
      have x2 : wr.cell? ⟨w.heap.size, 2, none⟩ = some (.int .i64 (sv 2)) := X1.c 2 rfl
      have x3 : wr.cell? ⟨w.heap.size, 3, none⟩ = some (.int .i64 (sv 3)) := X1.c 3 rfl
      replace X1 := Lib.hid X1
      have hres := hgood.out hok.out
      have o0 := hok.out 0 (by omega)
      have o1 := hok.out 1 (by omega)
      have o2 := hok.out 2 (by omega)
      have o3 := hok.out 3 (by omega)
      generalize sv 0 = s0 at *
      generalize sv 1 = s1 at *
      generalize sv 2 = s2 at *
      generalize sv 3 = s3 at *
      obtain ⟨t0, rfl⟩ : ∃ t : Nat, s0 = t := ⟨s0.toNat, by omega⟩
      obtain ⟨t1, rfl⟩ : ∃ t : Nat, s1 = t := ⟨s1.toNat, by omega⟩
      obtain ⟨t2, rfl⟩ : ∃ t : Nat, s2 = t := ⟨s2.toNat, by omega⟩
      obtain ⟨t3, rfl⟩ : ∃ t : Nat, s3 = t := ⟨s3.toNat, by omega⟩
      simp only [Int.toNat_natCast] at hres
      have TT := Lib.hid (fun W hW => T.out t0 t1 t2 t3 W hW (by omega) (by omega) (by omega) (by omega))
      generalize tradeB P t0 t1 t2 t3 = tb at *
      replace hres := Lib.hid hres
      clear o0 o1 o2 o3 T hbad hgood hok
      go_wp2_with (go_at_call 63; (with_reducible refine (TT.out _ (h.out.next B1)).mono ?_); rintro e w2 ⟨rfl, hb2⟩)
      go_ret2
      exact Ret.mk (show Value.tuple #[.bool tb, .int .i64 0] = _ by rw [hres.out]) (nextB B1 hb2)
end
end Go.Proofs.Ytnnndooagpkgmaa
