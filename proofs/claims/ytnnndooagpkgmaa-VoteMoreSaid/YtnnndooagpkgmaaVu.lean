/- Layer 3, by the program: Weights. -/
import Derived.Test.YtnnndooagpkgmaaVt
namespace Go.Proofs.Ytnnndooagpkgmaa
open Go Go.RowKit

abbrev zeroBody : Value := .agg #[.int .i64 0, .slice none 0 0]
/-- The lightest body of a rule, if it has no trade. -/
def wtM (t : Option (Nat × Nat × Nat)) (f : Nat → Bool) (n : Nat) : Option (Int × List Int) := if t.isSome then none else lightM f n
def WtR (n : Nat) (r : Option (Int × List Int)) (w : World) (e : Ending) (w' : World) : Prop :=
  Below w.heap.size w w' ∧ match r with
    | none => e = .returned (.tuple #[zeroBody, .int .i64 10])
    | some (q, vs) => ∃ G, e = .returned (.tuple #[.agg #[.int .i64 q, .slice (some ⟨G, 0, none⟩) n n], .int .i64 0]) ∧ vs.length = n ∧ Ints w' (some ⟨G, 0, none⟩) vs
section
variable (a : Option Addr) (n c m : Nat) (R : List Int) (w : World)
theorem Weights_no (x : Int) (h : Ints w a R) (hl : R.length = m) (hm : m ≤ 1000) (hmc : m ≤ c) (hR : ¬ RuleI x R) :
    Calls Try.prog 34 #[.int .i64 x, .slice a m c] w (Ret (errV zeroBody) w) := by
  have K := Lib.hid (fun W hW => gor_no a m c x R W hW hl hm hmc hR)
  have h := Lib.hid h
  clear hl
  go_enter Try.func34, Try.ntmps34
  go_wp2_with (go_at_call 56; refine (K.out _ (h.out.next (b1 _ _))).mono ?_; rintro e w1 ⟨rfl, hb1⟩; have hR := (Blk.new w 24 #[.int .i64 0, .slice none 0 0]).ext hb1; have r0 := hR.c 0 rfl; have r1 := hR.c 1 rfl; have rl := hR.lt; have f0 := hR.fr 0; have f1 := hR.fr 1; have hS := (hR.set2 (.int .i64 0) (.slice none 0 0)).alloc (.cells #[.int .i64 0, .slice none 0 0] 60); have s0 := hS.c 0 rfl; have s1 := hS.c 1 rfl; replace hS := Lib.hid hS; replace hR := Lib.hid hR)
  refine bodyPost_ret (v := errV zeroBody) (by simp [results, Try.results34, go_sem, s0, s1]) rfl ?_
  exact Ret.mk rfl (nextB (((nextB (b1 _ _) hb1).setCell (Nat.le_refl _) _).setCell (Nat.le_refl _) _) (b1 _ _))
theorem blk_ints {w w' : World} {a : Option Addr} {L : List Int} (h : Ints w a L) (hb : ∀ x, a = some x → w'.heap[x.block]? = w.heap[x.block]?) : Ints w' a L := by
  rcases h with h | ⟨b, off, rfl, hc⟩
  · exact .inl h
  · exact .inr ⟨b, off, rfl, fun i hi => (World.cell?_of_block (a := ⟨b, off + i, none⟩) (hb ⟨b, off, none⟩ rfl)).trans (hc i hi)⟩
theorem ints_set {w : World} {a : Option Addr} {L : List Int} (h : Ints w a L) (p : Addr) (v : Value) (hp : ∀ x, a = some x → x.block ≠ p.block) : Ints (w.setCell p v) a L :=
  blk_ints h fun x hx => Below.heap_setCell w p v x.block (hp x hx)
set_option maxRecDepth 100000 in
set_option maxHeartbeats 4000000 in
theorem Weights_yes (t : Option (Nat × Nat × Nat)) (h : Ints w a R) (hl : R.length = m) (hm : m ≤ 1000) (hmc : m ≤ c) (hR : RuleP n R) (ht : TradeP (hasOne R) (pw n) t) :
    Calls Try.prog 34 #[.int .i64 (n : Nat), .slice a m c] w (WtR n (wtM t (hasOne R) n) w) := by
  have h8 : n ≤ 8 := by have := hR.2.1; omega
  have T := Lib.hid (fun B W hW => trade_any n B (hasOne R) t W h8 hW ht)
  have Lt := Lib.hid (fun B W hW => lightest_any n B (hasOne R) W hR.1 h8 hW)
  obtain ⟨N, hN⟩ : ∃ N, Hid (pw n = N) := ⟨_, Lib.hid rfl⟩
  have K := Lib.hid (fun W hW => gor_at a n c W m R hW hl hm hmc hR N hN.out)
  rw [hN.out] at T Lt
  clear ht
  have hwt : Hid (wtM t (hasOne R) n = if t.isSome then none else lightM (hasOne R) n) := Lib.hid rfl
  generalize wtM t (hasOne R) n = r at *
  generalize lightM (hasOne R) n = lm at *
  generalize hasOne R = f at *
  have h := Lib.hid h
  clear hl hR
  obtain ⟨x0, x1, x2, x3, hx⟩ : ∃ x0 x1 x2 x3 : Int, trV t = quadV x0 x1 x2 x3 := by
    cases t with
    | none => exact ⟨0, 0, 0, 0, rfl⟩
    | some t => exact ⟨_, _, _, _, rfl⟩
  rw [hx] at T
  clear hx
  cases ht : t.isSome
  · rw [ht] at T hwt
    replace ht := Lib.hid ht
    cases lm with
    | none =>
      go_enter Try.func34, Try.ntmps34
      go_wp2_with (first
        | (go_at_call 56; refine (K.out _ (h.out.next (b1 _ _))).mono ?_; rintro e w1 ⟨B, rfl, hg, hBo, hb1⟩; replace hBo := Lib.hid (hBo.next (b1 w1 (.cells #[.int .i64 (n : Nat), .slice (some ⟨B, 0, none⟩) N N] 60))))
        | (go_at_call 60; refine (T.out _ _ hBo.out).mono ?_; rintro e w2 ⟨rfl, hb2⟩; have hGm := (Blk.new w1 60 #[.int .i64 (n : Nat), .slice (some ⟨B, 0, none⟩) N N]).ext hb2; have g0 := hGm.c 0 rfl; have g1 := hGm.c 1 rfl; have gl := hGm.lt; replace hGm := Lib.hid hGm)
        | (go_at_call 61; refine (Lt.out _ _ ((hBo.out.next hb2).next (b1 _ _))).mono ?_; rintro e w3 ⟨hb3, rfl⟩; have hR := ((((Blk.new w 24 #[.int .i64 0, .slice none 0 0]).ext hb1).alloc (.cells #[.int .i64 (n : Nat), .slice (some ⟨B, 0, none⟩) N N] 60)).ext hb2).ext (nextB (b1 _ _) hb3); have r0 := hR.c 0 rfl; have r1 := hR.c 1 rfl; have rl := hR.lt; have f0 := hR.fr 0; have f1 := hR.fr 1; have hS := (hR.set2 (.int .i64 0) (.slice none 0 0)).alloc (.cells #[.int .i64 0, .slice none 0 0] 24); have s0 := hS.c 0 rfl; have s1 := hS.c 1 rfl; replace hS := Lib.hid hS; replace hR := Lib.hid hR))
      refine bodyPost_ret (v := .tuple #[zeroBody, .int .i64 10]) (by simp [results, Try.results34, go_sem, s0, s1]) rfl ?_
      rw [hwt.out]
      exact ⟨nextB (((nextB (b1 _ _) (nextB hb1 (nextB (b1 _ _) (nextB hb2 (nextB (b1 _ _) hb3))))).setCell (Nat.le_refl _) _).setCell (Nat.le_refl _) _) (b1 _ _), rfl⟩
    | some r' =>
      obtain ⟨q, vs⟩ := r'
      go_enter Try.func34, Try.ntmps34
      go_wp2_with (first
        | (go_at_call 56; refine (K.out _ (h.out.next (b1 _ _))).mono ?_; rintro e w1 ⟨B, rfl, hg, hBo, hb1⟩; replace hBo := Lib.hid (hBo.next (b1 w1 (.cells #[.int .i64 (n : Nat), .slice (some ⟨B, 0, none⟩) N N] 60))))
        | (go_at_call 60; refine (T.out _ _ hBo.out).mono ?_; rintro e w2 ⟨rfl, hb2⟩; have hGm := (Blk.new w1 60 #[.int .i64 (n : Nat), .slice (some ⟨B, 0, none⟩) N N]).ext hb2; have g0 := hGm.c 0 rfl; have g1 := hGm.c 1 rfl; have gl := hGm.lt; replace hGm := Lib.hid hGm)
        | (go_at_call 61; refine (Lt.out _ _ ((hBo.out.next hb2).next (b1 _ _))).mono ?_; rintro e w3 ⟨hb3, G, rfl, hGn, hvl, hvI⟩; replace hvl := Lib.hid hvl; replace hvI := Lib.hid hvI; have hR := ((((Blk.new w 24 #[.int .i64 0, .slice none 0 0]).ext hb1).alloc (.cells #[.int .i64 (n : Nat), .slice (some ⟨B, 0, none⟩) N N] 60)).ext hb2).ext (nextB (b1 _ _) hb3); have r0 := hR.c 0 rfl; have r1 := hR.c 1 rfl; have rl := hR.lt; have f0 := hR.fr 0; have f1 := hR.fr 1; have hS := (hR.set2 (.int .i64 q) (.slice (some ⟨G, 0, none⟩) n n)).alloc (.cells #[.int .i64 q, .slice (some ⟨G, 0, none⟩) n n] 24); have s0 := hS.c 0 rfl; have s1 := hS.c 1 rfl; replace hS := Lib.hid hS; replace hR := Lib.hid hR))
      refine bodyPost_ret (v := .tuple #[.agg #[.int .i64 q, .slice (some ⟨G, 0, none⟩) n n], .int .i64 0]) (by simp [results, Try.results34, go_sem, s0, s1]) rfl ?_
      rw [hwt.out]
      refine ⟨nextB (((nextB (b1 _ _) (nextB hb1 (nextB (b1 _ _) (nextB hb2 (nextB (b1 _ _) hb3))))).setCell (Nat.le_refl _) _).setCell (Nat.le_refl _) _) (b1 _ _), G, rfl, hvl.out, ?_⟩
      have hz := (nextB (b1 w (.cells #[.int .i64 0, .slice none 0 0] 24)) (nextB hb1 (nextB (b1 w1 (.cells #[.int .i64 (n : Nat), .slice (some ⟨B, 0, none⟩) N N] 60)) hb2)))
      have hz2 := (((Blk.new w 24 #[.int .i64 0, .slice none 0 0]).ext hb1).alloc (.cells #[.int .i64 (n : Nat), .slice (some ⟨B, 0, none⟩) N N] 60)).ext hb2
      have hz3 := hz2.lt
      have hGw : ∀ x, some (⟨G, 0, none⟩ : Addr) = some x → x.block ≠ w.heap.size := fun x hx => by
        cases hx
        simp at hGn ⊢
        omega
      exact (ints_set (ints_set hvI.out _ _ hGw) _ _ hGw).next (b1 _ _)
  · rw [ht] at T hwt
    replace ht := Lib.hid ht
    go_enter Try.func34, Try.ntmps34
    go_wp2_with (first
      | (go_at_call 56; refine (K.out _ (h.out.next (b1 _ _))).mono ?_; rintro e w1 ⟨B, rfl, hg, hBo, hb1⟩; replace hBo := Lib.hid (hBo.next (b1 w1 (.cells #[.int .i64 (n : Nat), .slice (some ⟨B, 0, none⟩) N N] 60))))
      | (go_at_call 60; refine (T.out _ _ hBo.out).mono ?_; rintro e w2 ⟨rfl, hb2⟩; have hR := (((Blk.new w 24 #[.int .i64 0, .slice none 0 0]).ext hb1).alloc (.cells #[.int .i64 (n : Nat), .slice (some ⟨B, 0, none⟩) N N] 60)).ext hb2; have r0 := hR.c 0 rfl; have r1 := hR.c 1 rfl; have rl := hR.lt; have f0 := hR.fr 0; have f1 := hR.fr 1; have hS := (hR.set2 (.int .i64 0) (.slice none 0 0)).alloc (.cells #[.int .i64 x0, .int .i64 x1, .int .i64 x2, .int .i64 x3] 49); have s0 := hS.c 0 rfl; have s1 := hS.c 1 rfl; replace hS := Lib.hid hS; replace hR := Lib.hid hR))
    refine bodyPost_ret (v := .tuple #[zeroBody, .int .i64 10]) (by simp [results, Try.results34, go_sem, s0, s1]) rfl ?_
    rw [hwt.out]
    exact ⟨nextB (((nextB (b1 _ _) (nextB hb1 (nextB (b1 _ _) hb2))).setCell (Nat.le_refl _) _).setCell (Nat.le_refl _) _) (b1 _ _), rfl⟩
end
end Go.Proofs.Ytnnndooagpkgmaa
