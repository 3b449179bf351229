/- Layer 2: what is true at each 1 of a brand's list. -/
import Derived.Test.YtflbaadfbjpakaaFe
import Derived.Test.YtflbaadfbjpakaaMh
namespace Go.Proofs.Ytflbaadfbjpakaa
open Go Go.RowKit

/-- How many of the first k numbers are 1. -/
def cntO (xs : List Int) : Nat → Nat
  | 0 => 0
  | k + 1 => cntO xs k + if nth xs k = 1 then 1 else 0
theorem cntO_one (xs : List Int) {i : Nat} (h : nth xs i = 1) : ∀ k, i < k → 1 ≤ cntO xs k := by
  intro k
  induction k with
  | zero => omega
  | succ k ih =>
    intro hk
    rw [cntO]
    by_cases e : i = k
    · subst e; rw [if_pos h]; omega
    · have := ih (by omega); omega
theorem cntO_two (xs : List Int) {i j : Nat} (hij : i < j) (h1 : nth xs i = 1) (h2 : nth xs j = 1) : ∀ k, j < k → 2 ≤ cntO xs k := by
  intro k
  induction k with
  | zero => omega
  | succ k ih =>
    intro hk
    rw [cntO]
    by_cases e : j = k
    · subst e
      rw [if_pos h2]
      have := cntO_one xs h1 j hij
      omega
    · have := ih (by omega); omega
theorem cntO_le (xs : List Int) : ∀ k, cntO xs k ≤ k := by
  intro k
  induction k with
  | zero => exact Nat.le_refl _
  | succ k ih => rw [cntO]; split <;> omega
theorem ears_two {n : Nat} {L : List (Int × Int)} (hB : BrandP n L) (h4 : 4 ≤ n) : 2 ≤ cntO (roundL n L) n := by
  obtain ⟨m, hm, h9, hf, _⟩ := brand_nat hB
  obtain ⟨q, rfl⟩ : ∃ q, n = q + 4 := ⟨n - 4, by omega⟩
  obtain rfl : m = q + 1 := by omega
  obtain ⟨i, j, hi, hj, hij, h1, h2⟩ := two_ones q (by omega) hf
  rcases Nat.lt_or_gt_of_ne hij with h | h
  · exact cntO_two _ h h1 h2 _ hj
  · exact cntO_two _ h h2 h1 _ hi
theorem ear_facts {n : Nat} {L : List (Int × Int)} (hB : BrandP n L) (h4 : 4 ≤ n) {c : Nat} (hc : c < n) (h1 : nth (roundL n L) c = 1) :
    1 < nth (roundL n L) ((c + 1) % n) ∧ cutE (roundL n L) c = 0 ∧ cutO (roundL n L) c = cutL (roundL n L) c ∧ (cutL (roundL n L) c).length = n - 1 ∧ RoundP (cutL (roundL n L) c) ∧ ofL (cutL (roundL n L) c) ≠ none ∧
      glueE (cutL (roundL n L) c) (((c + n - 2) % (n - 1) : Nat) : Int) = 0 ∧ glueO (cutL (roundL n L) c) (((c + n - 2) % (n - 1) : Nat) : Int) = glueL (cutL (roundL n L) c) ((c + n - 2) % (n - 1)) ∧
      ∃ s, s < n ∧ ∀ i, i < n → nth (roundL n L) i = nth (glueL (cutL (roundL n L) c) ((c + n - 2) % (n - 1))) ((i + s) % n) := by
  obtain ⟨m, hm, h9, hf, _⟩ := brand_nat hB
  obtain ⟨q, rfl⟩ : ∃ q, n = q + 4 := ⟨n - 4, by omega⟩
  obtain rfl : m = q + 1 := by omega
  have hl := (nth_round hf).1
  have hR : RoundP (roundL (q + 4) L) := full_round hf h9
  have hG : Good (roundL (q + 4) L) := good_round (q + 1) hf
  have he := good_one hR.tame hG (by rw [hl]; omega) (by rw [hl]; exact hc) h1
  have hb := bare_of_one (q + 1) hf c hc h1
  have hcut := cutL_round hf hb (by omega) hc
  have hear := (hf.ear (x := (c : Int)) (by omega) hb (by omega) (by omega)).2
  rw [show ((q + 1 + 3 : Nat) : Int) - 1 = ((q + 3 : Nat) : Int) by omega] at hear
  rw [show q + 4 - 1 = q + 3 by omega] at hcut
  have hP : RoundP (roundL (q + 4) L) ∧ CornP (roundL (q + 4) L).length (c : Int) := ⟨hR, by rw [hl]; exact ⟨by omega, by omega⟩⟩
  have hk : ¬ ((roundL (q + 4) L).length = 3 ∨ ¬ EarP (roundL (q + 4) L) ((c : Int)).toNat) := by
    rw [hl, Int.toNat_natCast]
    rintro (h | h)
    · omega
    · exact h he
  obtain ⟨e1, e2⟩ := cut_ok hP hk
  rw [Int.toNat_natCast] at e2
  have hl' : (cutL (roundL (q + 4) L) c).length = q + 3 := by
    have := cutL_length (R := roundL (q + 4) L) (c := c) (by rw [hl]; exact hc)
    rw [hl] at this
    exact this
  have hR' : RoundP (cutL (roundL (q + 4) L) c) := by
    have h := full_round hear (by omega)
    have e : roundL (q + 3) (cutB ((q + 1 + 3 : Nat) : Int) c L) = cutL (roundL (q + 4) L) c := hcut.symm
    rw [e] at h
    exact h
  have hbd : ∀ i, i < q + 3 → nth (cutL (roundL (q + 4) L) c) i ≤ 9 := fun i hi => by
    have h := (round_bds q hear i hi).2
    have e : roundL (q + 3) (cutB ((q + 1 + 3 : Nat) : Int) c L) = cutL (roundL (q + 4) L) c := hcut.symm
    rw [e] at h
    omega
  have hof : ofL (cutL (roundL (q + 4) L) c) ≠ none := by
    intro hh
    have h := (ofL_none hR'.tame hR'.1 hR'.2.1).1 hh
    exact h (hG.cut (by rw [hl]; omega) (by rw [hl]; exact hc) h1)
  have hg : glueE (cutL (roundL (q + 4) L) c) (((c + (q + 4) - 2) % (q + 4 - 1) : Nat) : Int) = 0 := by
    have hlt : (c + (q + 4) - 2) % (q + 4 - 1) < q + 3 := Nat.mod_lt _ (by omega)
    unfold glueE
    rw [if_pos ⟨hR', by rw [hl']; exact ⟨by omega, by omega⟩⟩, hl', if_neg (by omega), Int.toNat_natCast, if_neg]
    rintro (h | h)
    · have := hbd _ hlt; omega
    · have := hbd (((c + (q + 4) - 2) % (q + 4 - 1) + 1) % (q + 3)) (Nat.mod_lt _ (by omega)); omega
  have hgb := glue_back (R := roundL (q + 4) L) (c := c) (by rw [hl]; omega) (by rw [hl]; exact hc) h1
  rw [hl] at hgb
  refine ⟨?_, e1, e2, by omega, hR', hof, hg, ?_, hgb⟩
  · have := he.2.2
    rw [hl] at this
    exact this
  · rw [glue_some hg, Int.toNat_natCast]
end Go.Proofs.Ytflbaadfbjpakaa
