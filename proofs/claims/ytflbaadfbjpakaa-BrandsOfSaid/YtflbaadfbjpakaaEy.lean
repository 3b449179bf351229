/- Layer 2: Glue where the specification refuses; BrandsCuts: the walk. -/
import Derived.Test.YtflbaadfbjpakaaDg
namespace Go.Proofs.Ytflbaadfbjpakaa
open Go Go.RowKit

set_option maxRecDepth 100000 in
set_option maxHeartbeats 4000000 in
theorem refGlue_any (a : Option Addr) (n cp : Nat) (c : Int) (xs : List Int) (w : World) (h : Ints w a xs) (hn : xs.length = n) (hm : n ≤ 4611686018427387904) :
    Calls Try.prog 39 #[.slice a n cp, .int .i64 c] w (GotI (glueO xs c) (glueE xs c) w) := by
  have K := Lib.hid (refIsRound_any a n cp xs w h hn hm)
  by_cases hP : RoundP xs ∧ CornP xs.length c
  · obtain ⟨hR, hC⟩ := hP
    have hP : RoundP xs ∧ CornP xs.length c := ⟨hR, hC⟩
    rw [hn] at hC
    obtain ⟨c, rfl⟩ : ∃ k : Nat, c = k := ⟨c.toNat, by have := hC.1; omega⟩
    have h3 := hR.1
    have h12 := hR.2.1
    have hcn : c < n := by have := hC.2; omega
    have hc00 : ¬ (c : Int) < 0 := by omega
    have hc01 : ¬ (n : Int) ≤ (c : Int) := by omega
    obtain ⟨b, off, rfl, hc⟩ := ints_at h (by omega)
    rw [hn] at hc
    by_cases e12 : n = 12
    · have hE : glueE xs c = 8 := by unfold glueE; rw [if_pos hP, hn, if_pos e12]
      rw [glue_none hE (by decide), hE]
      rw [decide_eq_true hR] at K
      have q2 : ((n : Int) == 12) = true := by rw [beq_iff_eq]; omega
      clear hP hR hC h hc hE e12
      go_enter Try.func39, Try.ntmps39
      go_wp2_with (go_at_call 44; refine K.out.mono ?_; rintro e w1 ⟨rfl, rfl⟩)
      go_ret2
      exact GotI.none 8 (Below.refl _ _)
    · by_cases hy : nth xs c = 12 ∨ nth xs ((c + 1) % n) = 12
      · have hE : glueE xs c = 4 := by unfold glueE; rw [if_pos hP, hn, if_neg e12, Int.toNat_natCast, if_pos hy]
        rw [glue_none hE (by decide), hE]
        rw [decide_eq_true hR] at K
        obtain ⟨m3, m4, m5⟩ := mod_at1 c n (by omega)
        have x0 := hc c hcn
        have x1 := hc ((c + 1) % n) (Nat.mod_lt _ (by omega))
        have q2 : ((n : Int) == 12) = false := by rw [beq_eq_false_iff_ne]; omega
        have hcase : (nth xs c == 12) = true ∨ ((nth xs c == 12) = false ∧ (nth xs ((c + 1) % n) == 12) = true) := by
          simp only [beq_iff_eq, beq_eq_false_iff_ne]
          omega
        clear hP hR hC h hc hE e12 hy
        generalize nth xs c = y0 at *
        generalize nth xs ((c + 1) % n) = y1 at *
        rcases hcase with g1 | ⟨g1, g2⟩
        all_goals (
          go_enter Try.func39, Try.ntmps39
          go_wp2_with (go_at_call 44; refine K.out.mono ?_; rintro e w1 ⟨rfl, rfl⟩)
          go_ret2
          exact GotI.none 4 (Below.refl _ _))
      · have hE : glueE xs c = 0 := by unfold glueE; rw [if_pos hP, hn, if_neg e12, Int.toNat_natCast, if_neg hy]
        rw [glue_some hE, hE, Int.toNat_natCast]
        exact refGlue_ok b off n cp c xs w hc hn hR hcn (by omega) (fun h => hy (.inl h)) (fun h => hy (.inr h))
  · have hE : glueE xs c = 2 := by unfold glueE; rw [if_neg hP]
    rw [glue_none hE (by decide), hE]
    by_cases hR : RoundP xs
    · rw [decide_eq_true hR] at K
      have hcase : c < 0 ∨ (0 ≤ c ∧ (n : Int) ≤ c) := by
        rw [hn] at hP
        unfold CornP at hP
        refine Classical.byContradiction fun hh => hP ⟨hR, by omega, by omega⟩
      clear hP hR h hE
      rcases hcase with h1 | ⟨h1, h2⟩
      all_goals (
        go_enter Try.func39, Try.ntmps39
        go_wp2_with (go_at_call 44; refine K.out.mono ?_; rintro e w1 ⟨rfl, rfl⟩)
        go_ret2
        exact GotI.none 2 (Below.refl _ _))
    · rw [decide_eq_false hR] at K
      clear hP hR h hE
      go_enter Try.func39, Try.ntmps39
      go_wp2_with (go_at_call 44; refine K.out.mono ?_; rintro e w1 ⟨rfl, rfl⟩)
      go_ret2
      exact GotI.none 2 (Below.refl _ _)
theorem ints_src {w : World} {a : Option Addr} {ad : Addr} {xs : List Int} (h : Ints w a xs) (ha : a = some ad) : ∀ j u, (lI xs)[j]? = some u → w.cell? (ad.add j) = some u := by
  intro j u hj
  rcases h with h0 | ⟨b, off, e, hc⟩
  · rw [List.eq_nil_of_length_eq_zero h0] at hj
    simp [lI] at hj
  · rw [ha] at e
    cases e
    have hlt : j < xs.length := by
      have := (List.getElem?_eq_some_iff.1 hj).1
      rwa [lI_length] at this
    rw [lI_get hlt] at hj
    cases hj
    rw [show Addr.add ⟨b, off, none⟩ j = ⟨b, off + j, none⟩ by simp [Addr.add]]
    exact hc j hlt
theorem cutO_small (xs : List Int) (c : Int) (h : xs.length ≤ 60) : (cutO xs c).length ≤ 100 := by
  unfold cutO
  split
  · rename_i h0
    have hP : RoundP xs ∧ CornP xs.length c := Classical.byContradiction fun hh => by rw [(cut_arg hh).1] at h0; cases h0
    rw [cutL_length (by have := hP.2.1; have := hP.2.2; omega)]
    omega
  · simp
theorem glueO_small (xs : List Int) (c : Int) (h : xs.length ≤ 60) : (glueO xs c).length ≤ 100 := by
  unfold glueO
  split
  · rename_i h0
    have hP : RoundP xs ∧ CornP xs.length c := Classical.byContradiction fun hh => by unfold glueE at h0; rw [if_neg hh] at h0; cases h0
    rw [glueL_length _ _ (by have := hP.2.1; have := hP.2.2; omega)]
    omega
  · simp
end Go.Proofs.Ytflbaadfbjpakaa
