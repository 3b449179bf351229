/- Layer 2: Of, by the program; Count, by the program. -/
import Derived.Test.YtflbaadfbjpakaaBy
namespace Go.Proofs.Ytflbaadfbjpakaa
open Go Go.RowKit

theorem RoundP.tame {xs : List Int} (h : RoundP xs) : Tame xs := h.2.2
/-- What Of returns: the lines, or that there are none. -/
def OfR (xs : List Int) (w : World) (e : Ending) (w' : World) : Prop :=
  Below w.heap.size w w' ∧ ((ofL xs = none ∧ e = .returned (.tuple #[.slice none 0 0, .int .i64 10])) ∨
    ∃ M a cap, ofL xs = some M ∧ e = .returned (.tuple #[.slice a M.length cap, .int .i64 0]) ∧ Prs w' a M ∧ M.length ≤ cap ∧ M.length ≤ 13)
theorem cutS_len : ∀ (f : Nat) (R C : List Int) (S : List (Int × Int)) (R' : List Int) (S' : List (Int × Int)), runE f R C S = some (R', S') → S'.length ≤ S.length + f := by
  intro f
  induction f with
  | zero => intro R C S R' S' h; cases h
  | succ f ih =>
    intro R C S R' S' h
    rw [runE] at h
    split at h
    · cases h; omega
    · split at h
      · cases h
      · have := ih _ _ _ _ _ h
        simp at this
        omega
set_option maxRecDepth 100000 in
set_option maxHeartbeats 1600000 in
theorem Of_no (a : Option Addr) (n c : Nat) (xs : List Int) (w : World) (h : Ints w a xs) (hn : xs.length = n) (hm : n ≤ 4611686018427387904) (hR : ¬ RoundP xs) :
    Calls Try.prog 26 #[.slice a n c] w (Only (.tuple #[.slice none 0 0, .int .i64 2]) w) := by
  have K := isRound_any a n c xs w h hn hm
  rw [decide_eq_false hR] at K
  replace K := Lib.hid K
  clear h hn hR
  go_enter Try.func26, Try.ntmps26
  go_wp2_with (go_at_call 54; refine K.out.mono ?_; rintro e w1 ⟨rfl, rfl⟩)
  go_ret2
  exact Only.mk rfl
set_option maxRecDepth 100000 in
set_option maxHeartbeats 1600000 in
theorem Of_yes (a : Option Addr) (n c : Nat) (xs : List Int) (w : World) (h : Ints w a xs) (hn : xs.length = n) (hR : RoundP xs) :
    Calls Try.prog 26 #[.slice a n c] w (OfR xs w) := by
  have h3 : 3 ≤ n := by rw [← hn]; exact hR.1
  have h12 : n ≤ 12 := by rw [← hn]; exact hR.2.1
  have K := isRound_any a n c xs w h hn (by omega)
  rw [decide_eq_true hR] at K
  replace K := Lib.hid K
  obtain ⟨b, off, rfl, hc⟩ := ints_at h (by omega)
  rw [hn] at hc
  have L := Lib.hid (linesOf_any b off n c xs w hn h3 h12 hR.tame hc)
  clear h hR hc hn
  go_enter Try.func26, Try.ntmps26
  go_wp2_with (go_at_call 54; refine K.out.mono ?_; rintro e w1 ⟨rfl, rfl⟩)
  refine L.out.mono ?_
  rintro e w1 ⟨B0, ⟨hr, rfl⟩ | ⟨R, S, a1, c1, hr, rfl, hown, hp, hc1⟩⟩
  · dsimp only
    replace hr := Lib.hid hr
    go_wp2
    go_ret2
    exact ⟨B0, .inl ⟨by unfold ofL; rw [hr.out], rfl⟩⟩
  · have hS := sortL_length S
    have hlS := cutS_len _ _ _ _ _ _ hr
    dsimp only
    replace hr := Lib.hid hr
    replace hS := Lib.hid hS
    replace hlS := Lib.hid hlS
    cases g : (maxL R == 1)
    · have g' := Lib.hid (show ¬ maxL R = 1 by simpa using g)
      go_wp2
      go_ret2
      exact ⟨B0, .inl ⟨by unfold ofL; rw [hr.out]; simp only []; rw [if_neg g'.out], rfl⟩⟩
    · have g' := Lib.hid (show maxL R = 1 by simpa using g)
      go_wp2
      go_ret2
      refine ⟨B0, .inr ⟨sortL S, a1, c1, by unfold ofL; rw [hr.out]; simp only []; rw [if_pos g'.out], by rw [hS.out]; rfl, hp, by rw [hS.out]; exact hc1, by rw [hS.out]; simpa using hlS.out⟩⟩
end Go.Proofs.Ytflbaadfbjpakaa
