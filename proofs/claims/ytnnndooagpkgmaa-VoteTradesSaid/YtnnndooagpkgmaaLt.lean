/- VoteTrades: Trade and IsTrade return what the specification returns: the walk. -/
import Derived.Test.YtnnndooagpkgmaaWw
import Derived.Test.YtnnndooagpkgmaaLw
namespace Go.Proofs.Ytnnndooagpkgmaa
open Go Go.RowKit

theorem trade_pair (x : Int) (m : Nat) (R : List Int) (hl : R.length = m) (hm : m ≤ 1000) : ∃ y0 y1 y2 y3 e : Int,
    (∀ a c W, Ints W a R → m ≤ c → Calls Try.prog 36 #[.int .i64 x, .slice a m c] W (Ret (.tuple #[quadV y0 y1 y2 y3, .int .i64 e]) W)) ∧
    (∀ a c W, Ints W a R → Calls Try.prog 37 #[.int .i64 x, .slice a m c] W (Ret (.tuple #[quadV y0 y1 y2 y3, .int .i64 e]) W)) := by
  by_cases hR : RuleI x R
  · obtain ⟨n, rfl⟩ : ∃ n : Nat, x = n := ⟨x.toNat, by have := hR.1; omega⟩
    have hP : RuleP n R := by simpa using hR.2
    obtain ⟨t, ht⟩ := tradeP_ex (hasOne R) (pw n)
    obtain ⟨y0, y1, y2, y3, hy⟩ : ∃ y0 y1 y2 y3 : Int, trV t = quadV y0 y1 y2 y3 := by
      cases t with
      | none => exact ⟨0, 0, 0, 0, rfl⟩
      | some t => exact ⟨_, _, _, _, rfl⟩
    refine ⟨y0, y1, y2, y3, trE t, fun a c W h hc => ?_, fun a c W h => ?_⟩
    · rw [← hy]; exact Trade_yes a n c m R W t h hl hm hc hP ht
    · rw [← hy]; exact refTrade_yes a n c m R W t h hl hm hP ht
  · exact ⟨0, 0, 0, 0, 2, fun a c W h hc => Trade_no a c m R W x h hl hm hc hR, fun a c W h => refTrade_no x a c m R W h hl hm hR⟩
theorem isTrade_pair (x : Int) (m : Nat) (R : List Int) (s0 s1 s2 s3 : Int) (hl : R.length = m) (hm : m ≤ 1000) : ∃ (b : Bool) (e : Int),
    (∀ a c W, Ints W a R → m ≤ c → Calls Try.prog 38 #[.int .i64 x, .slice a m c, quadV s0 s1 s2 s3] W (Ret (.tuple #[.bool b, .int .i64 e]) W)) ∧
    (∀ a c W, Ints W a R → Calls Try.prog 39 #[.int .i64 x, .slice a m c, quadV s0 s1 s2 s3] W (Ret (.tuple #[.bool b, .int .i64 e]) W)) := by
  obtain ⟨sv, hsv⟩ : ∃ sv : Nat → Int, quadV s0 s1 s2 s3 = quadS sv := ⟨fun i => if i = 0 then s0 else if i = 1 then s1 else if i = 2 then s2 else s3, rfl⟩
  rw [hsv]
  by_cases hR : RuleI x R
  · obtain ⟨n, rfl⟩ : ∃ n : Nat, x = n := ⟨x.toNat, by have := hR.1; omega⟩
    have hP : RuleP n R := by simpa using hR.2
    obtain ⟨b, e, hv⟩ : ∃ b e, istV (hasOne R) (pw n) sv = .tuple #[.bool b, .int .i64 e] := by
      unfold istV
      split
      · exact ⟨_, _, rfl⟩
      · exact ⟨_, _, rfl⟩
    refine ⟨b, e, fun a c W h hc => ?_, fun a c W h => ?_⟩
    · rw [← hv]; exact IsTrade_yes a n c m R sv W h hl hm hc hP
    · rw [← hv]; exact refIsTrade_yes a n c m R sv W h hl hm hP
  · exact ⟨false, 2, fun a c W h hc => IsTrade_no x a c m R sv W h hl hm hc hR, fun a c W h => refIsTrade_no x a c m R sv W h hl hm hR⟩
set_option maxRecDepth 100000 in
set_option maxHeartbeats 8000000 in
theorem trades_any (x : Int) (a : Option Addr) (m c : Nat) (R : List Int) (s0 s1 s2 s3 : Int) (w : World) (h : Ints w a R) (hl : R.length = m) (hmc : m ≤ c) (_hn : a = none → c = 0) :
    Calls Try.prog 8 #[.int .i64 x, .slice a m c, quadV s0 s1 s2 s3] w (Ret (.bool true) w) := by
  by_cases h60 : 60 < m
  · have g1 : decide (60 < m) = true := decide_eq_true h60
    clear hl
    go_enter Try.func8, Try.ntmps8
    go_wp2_with (go_at_call 16; refine (alive_any _).mono ?_; rintro e w1 ⟨rfl, hb1⟩)
    go_ret
    exact Ret.mk rfl (nextB (b1 _ _) hb1)
  · have g1 : decide (60 < m) = false := decide_eq_false h60
    obtain ⟨y0, y1, y2, y3, ee, T1, T2⟩ := trade_pair x m R hl (by omega)
    obtain ⟨bb, ff, I1, I2⟩ := isTrade_pair x m R s0 s1 s2 s3 hl (by omega)
    have hq : eqQ y0 y1 y2 y3 y0 y1 y2 y3 = true := by simp [eqQ]
    have he : (ee != ee) = false := by simp
    have hf : (ff == ff) = true := by simp
    have hb : (bb == bb) = true := by simp
    have X := Lib.hid (Blk.new w 49 #[.int .i64 s0, .int .i64 s1, .int .i64 s2, .int .i64 s3])
    replace T1 := Lib.hid (fun a c W hW hc => T1 a c W hW hc)
    replace T2 := Lib.hid T2
    replace I1 := Lib.hid I1
    replace I2 := Lib.hid I2
    replace h := Lib.hid h
    clear hl
    go_enter Try.func8, Try.ntmps8
    go_wp2_with (first
      | (go_at_call 36; refine (T1.out _ _ _ (h.out.next (b1 _ _)) hmc).mono ?_; rintro e v1 ⟨rfl, hb1⟩; have hA := Lib.hid (Blk.new v1 49 #[.int .i64 y0, .int .i64 y1, .int .i64 y2, .int .i64 y3]); have k0 := Lib.hid (nextB (b1 w (.cells #[.int .i64 s0, .int .i64 s1, .int .i64 s2, .int .i64 s3] 49)) (nextB hb1 (b1 v1 (.cells #[.int .i64 y0, .int .i64 y1, .int .i64 y2, .int .i64 y3] 49)))); have X1 := Lib.hid ((X.out.ext hb1).alloc (.cells #[.int .i64 y0, .int .i64 y1, .int .i64 y2, .int .i64 y3] 49)))
      | (go_at_call 37; refine (T2.out _ _ _ (h.out.next k0.out)).mono ?_; rintro e v2 ⟨rfl, hb2⟩; have hA2 := hA.out.ext hb2; have z0 := hA2.c 0 rfl; have z1 := hA2.c 1 rfl; have z2 := hA2.c 2 rfl; have z3 := hA2.c 3 rfl; have zl := hA2.lt; replace hA2 := Lib.hid hA2; replace X1 := Lib.hid (X1.out.ext hb2); have x0 := X1.out.c 0 rfl; have x1 := X1.out.c 1 rfl; have x2 := X1.out.c 2 rfl; have x3 := X1.out.c 3 rfl; have xl := X1.out.lt; replace X1 := Lib.hid (X1.out.alloc (.cells #[.int .i64 y0, .int .i64 y1, .int .i64 y2, .int .i64 y3] 49)); replace k0 := Lib.hid (nextB k0.out (nextB hb2 (b1 v2 (.cells #[.int .i64 y0, .int .i64 y1, .int .i64 y2, .int .i64 y3] 49)))))
      | (go_at_call 38; refine (I1.out _ _ _ (h.out.next k0.out) hmc).mono ?_; rintro e v3 ⟨rfl, hb3⟩; replace X1 := Lib.hid (X1.out.ext hb3); clear x0 x1 x2 x3 xl z0 z1 z2 z3 zl; have x0 := X1.out.c 0 rfl; have x1 := X1.out.c 1 rfl; have x2 := X1.out.c 2 rfl; have x3 := X1.out.c 3 rfl; have xl := X1.out.lt; replace k0 := Lib.hid (nextB k0.out hb3))
      | (go_at_call 39; refine (I2.out _ _ _ (h.out.next k0.out)).mono ?_; rintro e v4 ⟨rfl, hb4⟩; replace k0 := Lib.hid (nextB k0.out hb4); clear x0 x1 x2 x3 xl)
      | (go_at_call 16; refine (alive_any _).mono ?_; rintro e v5 ⟨rfl, hb5⟩))
    go_ret
    exact Ret.mk rfl (nextB k0.out hb5)
end Go.Proofs.Ytnnndooagpkgmaa
