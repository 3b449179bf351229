/- PensCounts: Count and Where return the numbers and errors of the specification, which looks at all points one by one: the walk. -/
import Derived.Test.YtnjegnlfdbbleaaPq
namespace Go.Proofs.Ytnjegnlfdbbleaa
open Go Go.RowKit Go.Shelf

theorem flip_iff {s a b : Int × Int} (h : ¬ OnP a b s) : flipB s (a, b) = true ↔ cE s a b ≠ 0 := by
  unfold flipB
  simp only [Bool.and_eq_true, bne_iff_ne, beq_iff_eq, ne_eq, decide_eq_decide]
  rcases Int.lt_or_le b.2 a.2 with g | g
  · have hn : b.2 ≤ s.2 → s.2 < a.2 → crossI a b s ≠ 0 := fun h1 h2 h0 => h (OnP_swap.1 (on_level (by rw [cross_swap]; omega) h1 (by omega) g))
    have e : crossI b a s = - crossI a b s := cross_swap a b s
    have := cE_upper (s := s) g
    rw [e] at this
    rw [← ne_eq, this]
    generalize crossI a b s = C at *
    omega
  · have := cE_lower (s := s) g
    rw [← ne_eq, this]
    have hn : a.2 < b.2 ∨ a.2 = b.2 := by omega
    generalize crossI a b s = C at *
    omega
theorem where_side (n : Nat) (p : Nat → Int × Int) (s : Int × Int) (k : Nat) (h : ∀ j, j < k → ¬ OnP (p j) (p ((j + 1) % n)) s) : sideL (flipB s) (sidesTo n p k) = placeV n p s k := by
  induction k with
  | zero => rfl
  | succ k ih =>
    rw [sidesTo_succ, sideL_snoc, placeV_succ, ih (fun j hj => h j (by omega))]
    have f := flip_iff (h k (by omega))
    have e : sideAt n p k = (p k, p ((k + 1) % n)) := rfl
    rw [e]
    by_cases hc : cE s (p k) (p ((k + 1) % n)) = 0
    · rw [if_pos hc, if_neg (fun hf => f.1 hf hc)]
    · rw [if_neg hc, if_pos (f.2 hc)]
theorem where_place (n : Nat) (p : Nat → Int × Int) (s : Int × Int) : whereI n p s = placeI n p s := by
  unfold whereI placeI
  by_cases ho : ∃ i, i < n ∧ OnP (p i) (p ((i + 1) % n)) s
  · rw [if_pos ho, if_pos ho]
  · rw [if_neg ho, if_neg ho]
    exact where_side n p s n (fun j hj hn => ho ⟨j, hj, hn⟩)
/-- What Where answers. -/
def whereV (n : Nat) (p : Nat → Int × Int) (s : Int × Int) : Int := if PenP n p ∧ Sm 1048576 s then placeI n p s else 0
def whereE (n : Nat) (p : Nat → Int × Int) (s : Int × Int) : Int := if PenP n p then (if Sm 1048576 s then 0 else 4) else 2

set_option maxHeartbeats 1600000 in
theorem Where_any (a : Option Addr) (n c : Nat) (p : Nat → Int × Int) (s0 s1 : Int) (w : World) (hm : n ≤ 4611686018427387904) (h : Pts w a n p) :
    Calls Try.prog 23 #[.slice a n c, .agg #[.int .i64 s0, .int .i64 s1]] w (Ret (.tuple #[.int .i64 (whereV n p (s0, s1)), .int .i64 (whereE n p (s0, s1))]) w) := by
  have H : Hid (∀ w1, Below w.heap.size w w1 → _) := Lib.hid fun w1 (hb : Below w.heap.size w w1) => penOf_any a n c p w1 hm (h.next hb)
  have hb0 : Below w.heap.size w (w.alloc (.cells #[.int .i64 s0, .int .i64 s1] 32)) := b1 _ _
  clear h
  go_enter Try.func23, Try.ntmps23
  go_wp2_with fail
  have T0 := BoxT.new w s0 s1
  generalize w.alloc (.cells #[.int .i64 s0, .int .i64 s1] 32) = W0 at *
  refine (H.out _ hb0).mono ?_
  rintro e w1 ⟨hb1, (⟨hp, g, c', rfl, hc'⟩ | ⟨hp, a', m', c', rfl⟩)⟩
  · have hw : Hid (∀ w2, Below w1.heap.size w1 w2 → Sm 1048576 (s0, s1) → _) := Lib.hid (fun w2 (hb : Below w1.heap.size w1 w2) hS => where_any g 0 n c' p s0 s1 w2 (by have := hp.1; omega) hp.2.1 hp.sm hS (pts_next hb hc'))
    replace hp := Lib.hid hp
    clear hc' H
    replace T0 := T0.ext hb1
    have t0 := T0.c0
    have t1 := T0.c1
    have B1 := nextB hb0 hb1
    clear hb0 hb1 T0
    dsimp only
    go_wp2_with fail
    refine (spotOf_any _ _ _).mono ?_
    rintro e w2 ⟨rfl, hb2⟩
    dsimp only
    go_wp2_with fail
    have hD := fun W => within_any s0 s1 1048576 W (by omega) (by omega)
    cases g2 : decide (Sm 1048576 (s0, s1))
    · rw [g2] at hD
      refine (hD _).mono ?_
      rintro e w3 ⟨rfl, hb3⟩
      dsimp only
      have hv : Hid (whereV n p (s0, s1) = 0 ∧ whereE n p (s0, s1) = 4) := Lib.hid ⟨if_neg (fun h => of_decide_eq_false g2 h.2), by unfold whereE; rw [if_pos hp.out, if_neg (of_decide_eq_false g2)]⟩
      clear hD g2
      go_wp2
      go_ret2
      refine Ret.mk ?_ (nextB B1 (nextB hb2 (nextB (b1 _ _) hb3)))
      rw [hv.out.1, hv.out.2]
      rfl
    · rw [g2] at hD
      refine (hD _).mono ?_
      rintro e w3 ⟨rfl, hb3⟩
      dsimp only
      have hS := of_decide_eq_true g2
      have hv : Hid (whereV n p (s0, s1) = whereI n p (s0, s1) ∧ whereE n p (s0, s1) = 0) := Lib.hid ⟨by rw [where_place]; exact if_pos ⟨hp.out, hS⟩, by unfold whereE; rw [if_pos hp.out, if_pos hS]⟩
      have u0 := cellB hb3 (p := ⟨w2.heap.size, 0, none⟩) (v := .int .i64 s0) (by go_simp)
      have u1 := cellB hb3 (p := ⟨w2.heap.size, 1, none⟩) (v := .int .i64 s1) (by go_simp)
      have B3 := nextB hb2 (nextB (b1 _ _) hb3)
      have HW := fun w4 (hb : Below w3.heap.size w3 w4) => hw.out w4 (nextB B3 hb) hS
      replace HW := Lib.hid HW
      clear hD g2 hb2 hb3 t0 t1 hS hw
      generalize whereI n p (s0, s1) = V at *
      go_wp2_with fail
      refine (HW.out _ (Below.refl _ _)).mono ?_
      rintro e w4 ⟨rfl, hb4⟩
      dsimp only
      go_wp2
      go_ret2
      refine Ret.mk ?_ (nextB B1 (nextB B3 hb4))
      rw [hv.out.1, hv.out.2]
      rfl
  · have hv : Hid (whereV n p (s0, s1) = 0 ∧ whereE n p (s0, s1) = 2) := Lib.hid ⟨if_neg (fun h => hp h.1), if_neg hp⟩
    clear hp
    dsimp only
    go_wp2
    go_ret2
    refine Ret.mk ?_ (nextB hb0 hb1)
    rw [hv.out.1, hv.out.2]
    rfl

set_option maxHeartbeats 1600000 in
theorem refWhere_any (a : Option Addr) (n c : Nat) (p : Nat → Int × Int) (s0 s1 : Int) (w : World) (hm : n ≤ 4611686018427387904) (h : Pts w a n p) :
    Calls Try.prog 24 #[.slice a n c, .agg #[.int .i64 s0, .int .i64 s1]] w (Ret (.tuple #[.int .i64 (whereV n p (s0, s1)), .int .i64 (whereE n p (s0, s1))]) w) := by
  have H : Hid (∀ w1, Below w.heap.size w w1 → _) := Lib.hid fun w1 (hb : Below w.heap.size w w1) => isPen_any a n c p w1 hm (h.next hb)
  have hb0 : Below w.heap.size w (w.alloc (.cells #[.int .i64 s0, .int .i64 s1] 32)) := b1 _ _
  replace h := Lib.hid h
  go_enter Try.func24, Try.ntmps24
  go_wp2_with fail
  have T0 := BoxT.new w s0 s1
  generalize w.alloc (.cells #[.int .i64 s0, .int .i64 s1] 32) = W0 at *
  refine (H.out _ hb0).mono ?_
  rintro e w1 ⟨rfl, hb1⟩
  replace T0 := T0.ext hb1
  have t0 := T0.c0
  have t1 := T0.c1
  have B1 := nextB hb0 hb1
  clear hb0 hb1 T0 H
  dsimp only
  cases g : decide (PenP n p)
  · have hv : Hid (whereV n p (s0, s1) = 0 ∧ whereE n p (s0, s1) = 2) := Lib.hid ⟨if_neg (fun h => of_decide_eq_false g h.1), if_neg (of_decide_eq_false g)⟩
    go_wp2
    go_ret2
    refine Ret.mk ?_ B1
    rw [hv.out.1, hv.out.2]
    rfl
  · have hp := of_decide_eq_true g
    by_cases hS : Sm 1048576 (s0, s1)
    · have hv : Hid (whereV n p (s0, s1) = placeI n p (s0, s1) ∧ whereE n p (s0, s1) = 0) := Lib.hid ⟨if_pos ⟨hp, hS⟩, by unfold whereE; rw [if_pos hp, if_pos hS]⟩
      obtain ⟨b, off, rfl, hc⟩ := ptsOf h.out (by have := hp.1; omega)
      have HP : Hid (∀ w1, Below w.heap.size w w1 → _) := Lib.hid (fun w1 (hb : Below w.heap.size w w1) => place_any b off n c p s0 s1 w1 (by have := hp.1; omega) hp.2.1 (fun i hi => (hp.sm i hi).mono (by omega)) hS (pts_next hb hc))
      clear hc hp h
      unfold Sm at hS
      simp only [] at hS
      obtain ⟨r1, r2, r3, r4⟩ := hS
      generalize placeI n p (s0, s1) = V at *
      go_wp2_with (go_at_call 44; refine (HP.out _ B1).mono ?_; rintro e w2 ⟨rfl, hb2⟩; replace B1 := nextB B1 hb2; clear hb2)
      go_ret2
      refine Ret.mk ?_ B1
      rw [hv.out.1, hv.out.2]
      rfl
    · have hv : Hid (whereV n p (s0, s1) = 0 ∧ whereE n p (s0, s1) = 4) := Lib.hid ⟨if_neg (fun h => hS h.2), by unfold whereE; rw [if_pos hp, if_neg hS]⟩
      clear h hp
      unfold Sm at hS
      simp only [] at hS
      have hw : s0 < -1048576 ∨ (-1048576 ≤ s0 ∧ 1048576 < s0) ∨ (-1048576 ≤ s0 ∧ s0 ≤ 1048576 ∧ s1 < -1048576) ∨ (-1048576 ≤ s0 ∧ s0 ≤ 1048576 ∧ -1048576 ≤ s1 ∧ 1048576 < s1) := by omega
      clear hS
      rcases hw with r1 | ⟨r1, r2⟩ | ⟨r1, r2, r3⟩ | ⟨r1, r2, r3, r4⟩
      all_goals
        go_wp2
        go_ret2
        refine Ret.mk ?_ B1
        rw [hv.out.1, hv.out.2]
        rfl

set_option maxRecDepth 100000 in
set_option maxHeartbeats 4000000 in
theorem counts_any (a : Option Addr) (n c : Nat) (p : Nat → Int × Int) (s0 s1 : Int) (w : World) (h : Pts w a n p) :
    Calls Try.prog 4 #[.slice a n c, .agg #[.int .i64 s0, .int .i64 s1]] w (Ret (.bool true) w) := by
  have HF := fun w => few_any a n c w
  have hb0 : Below w.heap.size w (w.alloc (.cells #[.int .i64 s0, .int .i64 s1] 32)) := b1 _ _
  have T0 := BoxT.new w s0 s1
  by_cases hn : n ≤ 60
  · have hm : n ≤ 4611686018427387904 := by omega
    simp only [decide_eq_true hn] at HF
    replace HF := Lib.hid HF
    have H3 : Hid (∀ w1, Below w.heap.size w w1 → _) := Lib.hid (fun w1 (hb : Below w.heap.size w w1) => Where_any a n c p s0 s1 w1 hm (h.next hb))
    have H4 : Hid (∀ w1, Below w.heap.size w w1 → _) := Lib.hid (fun w1 (hb : Below w.heap.size w w1) => refWhere_any a n c p s0 s1 w1 hm (h.next hb))
    generalize whereV n p (s0, s1) = V at *
    generalize whereE n p (s0, s1) = E at *
    obtain ⟨B, I, E2, H1, H2⟩ : ∃ B I E2 : Int, Hid (∀ w1, Below w.heap.size w w1 → Calls Try.prog 21 #[.slice a n c] w1 (Ret (.tuple #[.int .i64 B, .int .i64 I, .int .i64 E2]) w1)) ∧ Hid (∀ w1, Below w.heap.size w w1 → Calls Try.prog 22 #[.slice a n c] w1 (Ret (.tuple #[.int .i64 B, .int .i64 I, .int .i64 E2]) w1)) := by
      by_cases hp : PenP n p
      · refine ⟨borderI n p, boxS 50 (insI n p), 0, Lib.hid (fun w1 hb => ?_), Lib.hid (fun w1 hb => refCount_yes a n c p w1 hm (h.next hb) hp)⟩
        have := Count_yes a n c p w1 hm (h.next hb) hp
        rwa [hp.pick.1] at this
      · exact ⟨0, 0, 2, Lib.hid (fun w1 hb => Count_no a n c p w1 hm (h.next hb) hp), Lib.hid (fun w1 hb => refCount_no a n c p w1 hm (h.next hb) hp)⟩
    clear h
    go_enter Try.func4, Try.ntmps4
    go_wp2_with fail
    generalize w.alloc (.cells #[.int .i64 s0, .int .i64 s1] 32) = W0 at *
    refine (HF.out _).mono ?_
    rintro e w1 ⟨rfl, hb1⟩
    dsimp only
    replace T0 := T0.ext hb1
    replace hb1 := nextB hb0 hb1
    clear hb0
    go_wp2_with fail
    refine (H1.out _ hb1).mono ?_
    rintro e w2 ⟨rfl, hb2⟩
    dsimp only
    replace T0 := T0.ext hb2
    replace hb1 := nextB hb1 hb2
    clear hb2 H1
    go_wp2_with fail
    refine (H2.out _ hb1).mono ?_
    rintro e w2 ⟨rfl, hb2⟩
    dsimp only
    replace T0 := T0.ext hb2
    replace hb1 := nextB hb1 hb2
    clear hb2 H2
    have t0 := T0.c0
    have t1 := T0.c1
    go_wp2_with fail
    refine (H3.out _ hb1).mono ?_
    rintro e w2 ⟨rfl, hb2⟩
    dsimp only
    replace T0 := T0.ext hb2
    replace hb1 := nextB hb1 hb2
    clear hb2 H3 t0 t1
    have t0 := T0.c0
    have t1 := T0.c1
    go_wp2_with (first
      | (go_at_call 24; refine (H4.out _ hb1).mono ?_; rintro e w2 ⟨rfl, hb2⟩; replace hb1 := nextB hb1 hb2; clear hb2)
      | (go_at_call 13; refine (alive_any _).mono ?_; rintro e w2 ⟨rfl, hb2⟩; replace hb1 := nextB hb1 hb2; clear hb2))
    go_ret
    exact Ret.mk rfl hb1
  · simp only [decide_eq_false hn] at HF
    replace HF := Lib.hid HF
    clear h T0
    go_enter Try.func4, Try.ntmps4
    go_wp2_with (first
      | (go_at_call 12; refine (HF.out _).mono ?_; rintro e w1 ⟨rfl, hb1⟩; replace hb1 := nextB hb0 hb1; clear hb0)
      | (go_at_call 13; refine (alive_any _).mono ?_; rintro e w2 ⟨rfl, hb2⟩; replace hb1 := nextB hb1 hb2; clear hb2))
    go_ret
    exact Ret.mk rfl hb1
end Go.Proofs.Ytnjegnlfdbbleaa
