/- Layer 1: Area and Convex, of the program and of the specification. -/
import Derived.Test.YtnjegnlfdbbleaaPa
namespace Go.Proofs.Ytnjegnlfdbbleaa
open Go Go.RowKit Go.Shelf

set_option maxHeartbeats 800000 in
theorem refArea_no (a : Option Addr) (n c : Nat) (p : Nat → Int × Int) (w : World) (hm : n ≤ 4611686018427387904) (h : Pts w a n p) (hn : ¬ PenP n p) :
    Calls Try.prog 17 #[.slice a n c] w (Ret (.tuple #[.int .i64 0, .int .i64 2]) w) := by
  have H := isPen_any a n c p w hm h
  rw [decide_eq_false hn] at H
  replace H := Lib.hid H
  clear h hn
  go_enter Try.func17, Try.ntmps17
  go_wp2_with (go_at_call 15; refine H.out.mono ?_; rintro e w1 ⟨rfl, hb1⟩)
  go_ret2
  exact Ret.mk rfl hb1
set_option maxHeartbeats 800000 in
theorem refArea_yes (a : Option Addr) (n c : Nat) (p : Nat → Int × Int) (w : World) (hm : n ≤ 4611686018427387904) (h : Pts w a n p) (hn : PenP n p) :
    Calls Try.prog 17 #[.slice a n c] w (Ret (.tuple #[.int .i64 (areaI n p), .int .i64 0]) w) := by
  have H := isPen_any a n c p w hm h
  rw [decide_eq_true hn] at H
  replace H := Lib.hid H
  obtain ⟨b, off, rfl, hc⟩ := ptsOf h (by have := hn.1; omega)
  have n1 : 1 ≤ n := by have := hn.1; omega
  obtain ⟨q1, q2⟩ := signedI_bd hn.2.1 hn.sm
  have HS : Hid (∀ w1, Below w.heap.size w w1 → Calls Try.prog 39 #[.slice (some ⟨b, off, none⟩) n c] w1 (Ret (.int .i64 (signedI n p)) w1)) := fun w1 hb => refSigned_any b off n c p w1 n1 hn.2.1 hn.sm (pts_next hb hc)
  have hA : areaI n p = signedI n p ∧ 0 ≤ signedI n p ∨ areaI n p = - signedI n p ∧ signedI n p < 0 := by unfold areaI; omega
  clear h hc hn
  generalize areaI n p = A at *
  generalize signedI n p = S at *
  rcases hA with ⟨rfl, hA⟩ | ⟨rfl, hA⟩
  all_goals
    go_enter Try.func17, Try.ntmps17
    go_wp2_with (first | (go_at_call 15; refine H.out.mono ?_; rintro e w1 ⟨rfl, hb1⟩) | (go_at_call 39; (refine (HS.out _ hb1).mono ?_; rintro e w2 ⟨rfl, hb2⟩; replace hb1 := nextB hb1 hb2; clear hb2)))
    go_ret2
    exact Ret.mk rfl hb1

set_option maxHeartbeats 800000 in
theorem refConvexE (a : Option Addr) (n c : Nat) (p : Nat → Int × Int) (w : World) (hm : n ≤ 4611686018427387904) (h : Pts w a n p) :
    Calls Try.prog 19 #[.slice a n c] w (Ret (if PenP n p then .tuple #[.bool (convB n p), .int .i64 0] else .tuple #[.bool false, .int .i64 2]) w) := by
  have H := isPen_any a n c p w hm h
  by_cases hn : PenP n p
  · rw [if_pos hn]
    rw [decide_eq_true hn] at H
    replace H := Lib.hid H
    obtain ⟨b, off, rfl, hc⟩ := ptsOf h (by have := hn.1; omega)
    have n1 : 1 ≤ n := by have := hn.1; omega
    have HS : Hid (∀ w1, Below w.heap.size w w1 → Calls Try.prog 41 #[.slice (some ⟨b, off, none⟩) n c] w1 (Ret (.bool (convB n p)) w1)) := fun w1 hb => refConvex_any b off n c p w1 n1 hn.2.1 hn.sm (pts_next hb hc)
    clear h hc hn
    go_enter Try.func19, Try.ntmps19
    go_wp2_with (first | (go_at_call 15; refine H.out.mono ?_; rintro e w1 ⟨rfl, hb1⟩) | (go_at_call 41; (refine (HS.out _ hb1).mono ?_; rintro e w2 ⟨rfl, hb2⟩; replace hb1 := nextB hb1 hb2; clear hb2)))
    go_ret2
    exact Ret.mk rfl hb1
  · rw [if_neg hn]
    rw [decide_eq_false hn] at H
    replace H := Lib.hid H
    clear h hn
    go_enter Try.func19, Try.ntmps19
    go_wp2_with (go_at_call 15; refine H.out.mono ?_; rintro e w1 ⟨rfl, hb1⟩)
    go_ret2
    exact Ret.mk rfl hb1

/-- The program's word on a convex pen. -/
def flatB (n : Nat) (p : Nat → Int × Int) : Bool := (bendI n p).left == 0 || (bendI n p).right == 0
set_option maxHeartbeats 1600000 in
theorem ConvexE (a : Option Addr) (n c : Nat) (p : Nat → Int × Int) (w : World) (hm : n ≤ 4611686018427387904) (h : Pts w a n p) :
    Calls Try.prog 18 #[.slice a n c] w (Ret (if PenP n p then .tuple #[.bool (flatB n p), .int .i64 0] else .tuple #[.bool false, .int .i64 2]) w) := by
  have H := Lib.hid (penOf_any a n c p w hm h)
  clear h
  by_cases hn : PenP n p
  · rw [if_pos hn]
    have hn := Lib.hid hn
    go_enter Try.func18, Try.ntmps18
    go_wp2_with fail
    refine H.out.mono ?_
    rintro e w1 ⟨hb1, (⟨hp, g, c', rfl, hc'⟩ | ⟨hp, a', m', c', rfl⟩)⟩
    · have HB := Lib.hid (bends_any g 0 n c' p w1 (by have := hp.1; omega) hp.2.1 hp.sm hc')
      have hv : Hid (flatB n p = ((bendI n p).left == 0 || (bendI n p).right == 0)) := Lib.hid rfl
      clear hp hc' H
      generalize (bendI n p).left = L at *
      generalize (bendI n p).right = R at *
      dsimp only
      by_cases g1 : L = 0 <;> by_cases g2 : R = 0
      all_goals
        go_wp2_with (go_at_call 40; refine HB.out.mono ?_; rintro e w2 ⟨rfl, hb2⟩)
        go_ret2
        refine Ret.mk ?_ (nextB hb1 hb2)
        rw [hv.out]
        simp [g1, g2]
    · exact absurd hn.out hp
  · rw [if_neg hn]
    have hn := Lib.hid hn
    go_enter Try.func18, Try.ntmps18
    go_wp2_with fail
    refine H.out.mono ?_
    rintro e w1 ⟨hb1, (⟨hp, g, c', rfl, hc'⟩ | ⟨hp, a', m', c', rfl⟩)⟩
    · exact absurd hp hn.out
    · clear hp
      dsimp only
      go_wp2
      go_ret2
      exact Ret.mk rfl hb1
end Go.Proofs.Ytnjegnlfdbbleaa
