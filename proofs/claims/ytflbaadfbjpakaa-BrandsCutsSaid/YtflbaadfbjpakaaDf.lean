/- Layer 2: Cut where the specification refuses; Glue, by the program. -/
import Derived.Test.YtflbaadfbjpakaaDe
namespace Go.Proofs.Ytflbaadfbjpakaa
open Go Go.RowKit

set_option maxRecDepth 100000 in
set_option maxHeartbeats 4000000 in
theorem refCut_any (a : Option Addr) (n cp : Nat) (c : Int) (xs : List Int) (w : World) (h : Ints w a xs) (hn : xs.length = n) (hm : n ≤ 4611686018427387904) :
    Calls Try.prog 37 #[.slice a n cp, .int .i64 c] w (GotI (cutO xs c) (cutE xs c) w) := by
  have K := Lib.hid (refIsRound_any a n cp xs w h hn hm)
  by_cases hP : RoundP xs ∧ CornP xs.length c
  · obtain ⟨hR, hC⟩ := hP
    have hP : RoundP xs ∧ CornP xs.length c := ⟨hR, hC⟩
    rw [hn] at hC
    obtain ⟨c, rfl⟩ : ∃ k : Nat, c = k := ⟨c.toNat, by have := hC.1; omega⟩
    have h3 := hR.1
    have h12 := hR.2.1
    have hcn : c < n := by have := hC.2; omega
    obtain ⟨b, off, rfl, hc⟩ := ints_at h (by omega)
    rw [hn] at hc
    by_cases he : xs.length = 3 ∨ ¬ EarP xs c
    · rw [(cut_state hP (by simpa using he)).1, (cut_state hP (by simpa using he)).2]
      rw [decide_eq_true hR] at K
      obtain ⟨m0, m1, m2⟩ := mod_ahead c n (by omega)
      obtain ⟨m3, m4, m5⟩ := mod_at1 c n (by omega)
      have x0 := hc c hcn
      have x1 := hc ((c + n - 1) % n) (Nat.mod_lt _ (by omega))
      have x2 := hc ((c + 1) % n) (Nat.mod_lt _ (by omega))
      have b1 := hR.2.2 ((c + n - 1) % n) (by rw [hn]; exact Nat.mod_lt _ (by omega))
      have b2 := hR.2.2 ((c + 1) % n) (by rw [hn]; exact Nat.mod_lt _ (by omega))
      have hc00 : ¬ (c : Int) < 0 := by omega
      have hc01 : ¬ n ≤ c := by omega
      have hcase : ((nth xs c != 1) = true) ∨ ((nth xs c != 1) = false ∧ (nth xs ((c + 1) % n) == 1) = true) ∨ ((nth xs c != 1) = false ∧ (nth xs ((c + 1) % n) == 1) = false ∧ (nth xs ((c + n - 1) % n) == 1) = true) ∨ ((nth xs c != 1) = false ∧ (nth xs ((c + 1) % n) == 1) = false ∧ (nth xs ((c + n - 1) % n) == 1) = false ∧ ((n : Int) == 3) = true) := by
        simp only [bne_iff_ne, bne_eq_false_iff_eq, beq_iff_eq, beq_eq_false_iff_ne]
        unfold EarP at he
        rw [hn] at he
        omega
      clear he hP hR hC h b1 b2 hc
      generalize nth xs c = y0 at *
      generalize nth xs ((c + 1) % n) = y2 at *
      generalize nth xs ((c + n - 1) % n) = y1 at *
      rcases hcase with g1 | ⟨g1, g2⟩ | ⟨g1, g2, g3⟩ | ⟨g1, g2, g3, g4⟩
      all_goals (
        go_enter Try.func37, Try.ntmps37
        go_wp2_with (go_at_call 44; refine K.out.mono ?_; rintro e w1 ⟨rfl, rfl⟩)
        go_ret2
        exact GotI.none 9 (Below.refl _ _))
    · rw [(cut_ok hP (by simpa using he)).1, (cut_ok hP (by simpa using he)).2]
      rw [Int.toNat_natCast]
      exact refCut_ok b off n cp c xs w hc hn hR hcn (Classical.byContradiction fun h => he (.inr h)) (by have := mt Or.inl he; omega) (by omega)
  · rw [(cut_arg hP).1, (cut_arg hP).2]
    by_cases hR : RoundP xs
    · rw [decide_eq_true hR] at K
      have hcase : c < 0 ∨ (0 ≤ c ∧ (n : Int) ≤ c) := by
        rw [hn] at hP
        unfold CornP at hP
        refine Classical.byContradiction fun hh => hP ⟨hR, by omega, by omega⟩
      clear hP hR h
      rcases hcase with h1 | ⟨h1, h2⟩
      all_goals (
        go_enter Try.func37, Try.ntmps37
        go_wp2_with (go_at_call 44; refine K.out.mono ?_; rintro e w1 ⟨rfl, rfl⟩)
        go_ret2
        exact GotI.none 2 (Below.refl _ _))
    · rw [decide_eq_false hR] at K
      clear hP hR h
      go_enter Try.func37, Try.ntmps37
      go_wp2_with (go_at_call 44; refine K.out.mono ?_; rintro e w1 ⟨rfl, rfl⟩)
      go_ret2
      exact GotI.none 2 (Below.refl _ _)
/-- The list with a 1 behind c, whose neighbours are made greater by 1. -/
def glueL (xs : List Int) (c : Nat) : List Int := insV (bump (bump xs c) ((c + 1) % xs.length)) (c + 1) 1
theorem glueL_length (xs : List Int) (c : Nat) (hc : c < xs.length) : (glueL xs c).length = xs.length + 1 := by
  unfold glueL
  rw [insV_length _ _ _ (by rw [bump_length, bump_length]; omega), bump_length, bump_length]
set_option maxRecDepth 100000 in
set_option maxHeartbeats 1600000 in
theorem Glue_ok (b off n cp c : Nat) (xs : List Int) (w : World) (hc : ∀ i, i < n → w.cell? ⟨b, off + i, none⟩ = some (.int .i64 (nth xs i))) (hn : xs.length = n) (hR : RoundP xs) (hcn : c < n) (h12 : n < 12) (hy1 : nth xs c ≠ 12) (hy2 : nth xs ((c + 1) % n) ≠ 12) :
    Calls Try.prog 38 #[.slice (some ⟨b, off, none⟩) n cp, .int .i64 c] w (GotI (glueL xs c) 0 w) := by
  have h3 := hR.1
  have K := Lib.hid (isRound_any (some ⟨b, off, none⟩) n cp xs w (.inr ⟨b, off, rfl, fun i hi => hc i (by omega)⟩) hn (by omega))
  rw [decide_eq_true hR] at K
  have C := isCorner_any n c
  rw [decide_eq_true (show CornP n c from ⟨by omega, by omega⟩)] at C
  have B := fun W => after_any n c W (by omega) (by omega) (by omega)
  have T := Lib.hid (clone_any b off n cp xs w hn (by omega) (by omega) hc)
  obtain ⟨m3, m4, m5⟩ := mod_at1 c n (by omega)
  have hnx : (c + 1) % n < n := Nat.mod_lt _ (by omega)
  have hne : (c + 1) % n ≠ c := by rw [mod_small (by omega)]; split <;> omega
  have x0 := hc c hcn
  have x1 := hc ((c + 1) % n) hnx
  have hb0 := hR.2.2 c (by omega)
  have hb1 := hR.2.2 ((c + 1) % n) (by omega)
  obtain ⟨ys, hys⟩ : ∃ ys, ys = bump xs c := ⟨_, rfl⟩
  have hyl : ys.length = n := by rw [hys, bump_length, hn]
  have e1 : nth ys ((c + 1) % n) = nth xs ((c + 1) % n) := by rw [hys, bump, nth_set (by omega), if_neg hne]
  have hgl : glueL xs c = insV (ys.set ((c + 1) % n) (nth xs ((c + 1) % n) + 1)) (c + 1) 1 := by
    unfold glueL
    rw [hn, ← hys]
    unfold bump
    rw [e1]
  have hlen := glueL_length xs c (by omega)
  have g1 : Hid ((lI xs)[c]? = some (.int .i64 (nth xs c))) := Lib.hid (lI_get (by omega))
  have g2 : Hid ((lI ys)[(c + 1) % n]? = some (.int .i64 (nth xs ((c + 1) % n)))) := Lib.hid (by rw [lI_get (by omega), e1])
  have gs : Hid ((lI xs).set c (.int .i64 (nth xs c + 1)) = lI ys) := Lib.hid (by rw [lI_set, hys]; rfl)
  have gz : Hid ((lI ys).set ((c + 1) % n) (.int .i64 (nth xs ((c + 1) % n) + 1)) = lI (ys.set ((c + 1) % n) (nth xs ((c + 1) % n) + 1))) := Lib.hid (by rw [lI_set])
  replace hgl := Lib.hid hgl
  replace hlen := Lib.hid hlen
  replace hn := Lib.hid hn
  have q0 : (nth xs c == 12) = false := by rw [beq_eq_false_iff_ne]; exact hy1
  have q1 : (nth xs ((c + 1) % n) == 12) = false := by rw [beq_eq_false_iff_ne]; exact hy2
  have q2 : ((n : Int) == 12) = false := by rw [beq_eq_false_iff_ne]; omega
  clear hys hyl e1 hR hc hy1 hy2
  obtain ⟨u1, u2⟩ := hb0
  obtain ⟨u3, u4⟩ := hb1
  generalize nth xs c = y0 at *
  generalize nth xs ((c + 1) % n) = y1 at *
  go_enter Try.func38, Try.ntmps38
  go_wp2_with (first
    | (go_at_call 54; refine K.out.mono ?_; rintro e w1 ⟨rfl, rfl⟩)
    | (go_at_call 59; refine (C _).mono ?_; rintro e w1 ⟨rfl, rfl⟩)
    | (go_at_call 61; refine (B _).mono ?_; rintro e w1 ⟨rfl, rfl⟩)
    | (go_at_call 66; refine T.out.mono ?_; rintro e w1 ⟨g, cap, rfl, hown, B0⟩; have e1 := hown.cellAt c (by omega); rw [g1.out] at e1; have f1 := hown.frozenAt c; have st := hown.stored c (.int .i64 (y0 + 1)); rw [gs.out] at st; have e2 := st.1.cellAt ((c + 1) % n) (by omega); rw [g2.out] at e2; have f2 := hown.frozenAt ((c + 1) % n); have hlt := (hown.lt _ rfl).2))
  have st2 := st.1.stored ((c + 1) % n) (.int .i64 (y1 + 1))
  rw [gz.out] at st2
  have X0 := Blk.new ((w1.setCell ⟨g, c, none⟩ (.int .i64 (y0 + 1))).setCell ⟨g, (c + 1) % n, none⟩ (.int .i64 (y1 + 1))) 3 #[.int .i64 1]
  have B3 : Below w.heap.size w (((w1.setCell ⟨g, c, none⟩ (.int .i64 (y0 + 1))).setCell ⟨g, (c + 1) % n, none⟩ (.int .i64 (y1 + 1))).alloc (.cells #[.int .i64 1] 3)) :=
    ((B0.setCell (p := ⟨g, c, none⟩) (hown.lt _ rfl).1 _).setCell (p := ⟨g, (c + 1) % n, none⟩) (hown.lt _ rfl).1 _).alloc (by have := B0.size; simp; omega) _
  have hl2 : g < ((w1.setCell ⟨g, c, none⟩ (.int .i64 (y0 + 1))).setCell ⟨g, (c + 1) % n, none⟩ (.int .i64 (y1 + 1))).heap.size := (st2.1.lt _ rfl).2
  have I := insert_any w.heap.size g n cap (c + 1) _ _ 1 _ (st2.1.alloc (.cells #[.int .i64 1] 3)) (by omega) (by omega) (by omega) X0 (by omega) B3.size
  rw [← hgl.out, show ((c + 1 : Nat) : Int) = (c : Int) + 1 by omega] at I
  have hsz : (((w1.setCell ⟨g, c, none⟩ (.int .i64 (y0 + 1))).setCell ⟨g, (c + 1) % n, none⟩ (.int .i64 (y1 + 1))).heap.size) = w1.heap.size := by simp
  rw [hsz] at I
  refine I.mono ?_
  clear I X0 st st2 e1 e2 f1 f2 hown B0
  rintro e w4 ⟨g', cap', rfl, hown4, B4⟩
  dsimp only
  go_wp2
  go_ret2
  have ho := own_ints hown4
  exact ⟨_, _, by rw [hlen.out, hn.out]; rfl, .inr ⟨g', 0, rfl, fun i hi => ho.2 i (by rw [hlen.out, hn.out] at hi; exact hi)⟩, by rw [hlen.out, hn.out]; exact (own_cap hown4).1, B3.trans B4⟩
end Go.Proofs.Ytflbaadfbjpakaa
