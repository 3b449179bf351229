/- Layer 3, by the program: Trade, IsTrade. -/
import Derived.Test.YtnnndooagpkgmaaVo
namespace Go.Proofs.Ytnnndooagpkgmaa
open Go Go.RowKit

theorem first_of {P : Nat → Prop} [DecidablePred P] (N : Nat) : (∀ i, i < N → P i) ∨ ∃ i, i < N ∧ ¬ P i ∧ ∀ j, j < i → P j := by
  induction N with
  | zero => exact .inl fun i hi => absurd hi (by omega)
  | succ k ih =>
    rcases ih with ih | ⟨i, h1, h2, h3⟩
    · by_cases hk : P k
      · exact .inl (lt_succ_all ih hk)
      · exact .inr ⟨k, by omega, hk, ih⟩
    · exact .inr ⟨i, by omega, h2, h3⟩
theorem tradeP_ex (f : Nat → Bool) (N : Nat) : ∃ t, TradeP f N t := by
  rcases first_of (P := fun a => NoB f N a N) N with h | ⟨a, h1, h2, h3⟩
  · exact ⟨none, h⟩
  · rcases first_of (P := fun b => a ≤ b → NoC f a b N) N with k | ⟨b, k1, k2, k3⟩
    · exact absurd k h2
    · have hab : a ≤ b := Classical.byContradiction fun hn => k2 (fun hc => absurd hc hn)
      rcases first_of (P := fun c => tr3 f a b c = false) N with l | ⟨c, l1, l2, l3⟩
      · exact absurd (fun _ => l) k2
      · exact ⟨some (a, b, c), h1, hab, k1, l1, by simpa using l2, h3, k3, l3⟩
section
variable (a : Option Addr) (n c m : Nat) (R : List Int) (w : World)
theorem Trade_no (x : Int) (h : Ints w a R) (hl : R.length = m) (hm : m ≤ 1000) (hmc : m ≤ c) (hR : ¬ RuleI x R) :
    Calls Try.prog 36 #[.int .i64 x, .slice a m c] w (Ret (errV (quadV 0 0 0 0)) w) := by
  have K := Lib.hid (fun W hW => gor_no a m c x R W hW hl hm hmc hR)
  have h := Lib.hid h
  clear hl
  go_enter Try.func36, Try.ntmps36
  go_wp2_with (go_at_call 56; refine (K.out _ (h.out.next (b1 _ _))).mono ?_; rintro e w1 ⟨rfl, hb1⟩; have hR := (Blk.new w 49 #[.int .i64 0, .int .i64 0, .int .i64 0, .int .i64 0]).ext hb1; have r0 := hR.c 0 rfl; have r1 := hR.c 1 rfl; have r2 := hR.c 2 rfl; have r3 := hR.c 3 rfl; have rl := hR.lt; have f0 := hR.fr 0; have f1 := hR.fr 1; have f2 := hR.fr 2; have f3 := hR.fr 3; have hS := (hR.set4 (.int .i64 0) (.int .i64 0) (.int .i64 0) (.int .i64 0)).alloc (.cells #[.int .i64 0, .slice none 0 0] 60); have s0 := hS.c 0 rfl; have s1 := hS.c 1 rfl; have s2 := hS.c 2 rfl; have s3 := hS.c 3 rfl; replace hS := Lib.hid hS; replace hR := Lib.hid hR)
  refine bodyPost_ret (v := errV (quadV 0 0 0 0)) (by simp [results, Try.results36, go_sem, s0, s1, s2, s3]) rfl ?_
  exact Ret.mk rfl (nextB (((((nextB (b1 _ _) hb1).setCell (Nat.le_refl _) _).setCell (Nat.le_refl _) _).setCell (Nat.le_refl _) _).setCell (Nat.le_refl _) _) (b1 _ _))
/-- The trade's error. -/
def trE (t : Option (Nat × Nat × Nat)) : Int := if t.isSome then 0 else 10
set_option maxRecDepth 100000 in
set_option maxHeartbeats 4000000 in
theorem Trade_yes (t : Option (Nat × Nat × Nat)) (h : Ints w a R) (hl : R.length = m) (hm : m ≤ 1000) (hmc : m ≤ c) (hR : RuleP n R) (ht : TradeP (hasOne R) (pw n) t) :
    Calls Try.prog 36 #[.int .i64 (n : Nat), .slice a m c] w (Ret (.tuple #[trV t, .int .i64 (trE t)]) w) := by
  have h8 : n ≤ 8 := by have := hR.2.1; omega
  have T := Lib.hid (fun B W hW => trade_any n B (hasOne R) t W h8 hW ht)
  obtain ⟨N, hN⟩ : ∃ N, Hid (pw n = N) := ⟨_, Lib.hid rfl⟩
  have K := Lib.hid (fun W hW => gor_at a n c W m R hW hl hm hmc hR N hN.out)
  rw [hN.out] at T
  clear ht
  generalize hasOne R = f at *
  have h := Lib.hid h
  clear hl hR
  obtain ⟨x0, x1, x2, x3, hx⟩ : ∃ x0 x1 x2 x3 : Int, trV t = quadV x0 x1 x2 x3 := by
    cases t with
    | none => exact ⟨0, 0, 0, 0, rfl⟩
    | some t => exact ⟨_, _, _, _, rfl⟩
  rw [hx] at T ⊢
  cases t
  all_goals
    have hx' := Lib.hid hx
    clear hx
    unfold trE
    simp only [Option.isSome_none, Option.isSome_some, Bool.false_eq_true, if_false, if_true] at T ⊢
    go_enter Try.func36, Try.ntmps36
    go_wp2_with (first
      | (go_at_call 56; refine (K.out _ (h.out.next (b1 _ _))).mono ?_; rintro e w1 ⟨B, rfl, hg, hBo, hb1⟩; replace hBo := Lib.hid (hBo.next (b1 w1 (.cells #[.int .i64 (n : Nat), .slice (some ⟨B, 0, none⟩) N N] 60))))
      | (go_at_call 60; refine (T.out _ _ hBo.out).mono ?_; rintro e w2 ⟨rfl, hb2⟩; have hR := (((Blk.new w 49 #[.int .i64 0, .int .i64 0, .int .i64 0, .int .i64 0]).ext hb1).alloc (.cells #[.int .i64 (n : Nat), .slice (some ⟨B, 0, none⟩) N N] 60)).ext hb2; have r0 := hR.c 0 rfl; have r1 := hR.c 1 rfl; have r2 := hR.c 2 rfl; have r3 := hR.c 3 rfl; have rl := hR.lt; have f0 := hR.fr 0; have f1 := hR.fr 1; have f2 := hR.fr 2; have f3 := hR.fr 3; have hS := (hR.set4 (.int .i64 x0) (.int .i64 x1) (.int .i64 x2) (.int .i64 x3)).alloc (.cells #[.int .i64 x0, .int .i64 x1, .int .i64 x2, .int .i64 x3] 49); have s0 := hS.c 0 rfl; have s1 := hS.c 1 rfl; have s2 := hS.c 2 rfl; have s3 := hS.c 3 rfl; have hZ := (hR.set4 (.int .i64 0) (.int .i64 0) (.int .i64 0) (.int .i64 0)).alloc (.cells #[.int .i64 x0, .int .i64 x1, .int .i64 x2, .int .i64 x3] 49); have z0 := hZ.c 0 rfl; have z1 := hZ.c 1 rfl; have z2 := hZ.c 2 rfl; have z3 := hZ.c 3 rfl; replace hZ := Lib.hid hZ; replace hS := Lib.hid hS; replace hR := Lib.hid hR))
  · refine bodyPost_ret (v := .tuple #[quadV 0 0 0 0, .int .i64 10]) (by simp [results, Try.results36, go_sem, z0, z1, z2, z3]) rfl ?_
    exact Ret.mk (show Value.tuple #[quadV 0 0 0 0, .int .i64 10] = _ by rw [show quadV 0 0 0 0 = quadV x0 x1 x2 x3 from hx'.out]) (nextB (((((nextB (b1 _ _) (nextB hb1 (nextB (b1 _ _) hb2))).setCell (Nat.le_refl _) _).setCell (Nat.le_refl _) _).setCell (Nat.le_refl _) _).setCell (Nat.le_refl _) _) (b1 _ _))
  · refine bodyPost_ret (v := .tuple #[quadV x0 x1 x2 x3, .int .i64 0]) (by simp [results, Try.results36, go_sem, s0, s1, s2, s3]) rfl ?_
    exact Ret.mk rfl (nextB (((((nextB (b1 _ _) (nextB hb1 (nextB (b1 _ _) hb2))).setCell (Nat.le_refl _) _).setCell (Nat.le_refl _) _).setCell (Nat.le_refl _) _).setCell (Nat.le_refl _) _) (b1 _ _))
end
end Go.Proofs.Ytnnndooagpkgmaa
