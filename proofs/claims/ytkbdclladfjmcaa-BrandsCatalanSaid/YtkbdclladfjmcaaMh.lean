/- Layer 2: a brand's list is a round list; and blocks read as lists. -/
import Derived.Test.YtkbdclladfjmcaaMf
import Derived.Test.YtkbdclladfjmcaaDg
namespace Go.Proofs.Ytkbdclladfjmcaa
open Go Go.RowKit

theorem brand_nat {n : Int} {L : List (Int × Int)} (hB : BrandP n L) : ∃ m : Nat, n = ((m + 3 : Nat) : Int) ∧ m ≤ 9 ∧ Full ((m + 3 : Nat) : Int) L ∧ SortedP L := by
  have h1 := hB.1
  have h2 := hB.2.1
  obtain ⟨m, rfl⟩ : ∃ m : Nat, n = ((m + 3 : Nat) : Int) := ⟨(n - 3).toNat, by omega⟩
  exact ⟨m, rfl, by omega, hB.full.1, hB.full.2⟩
theorem full_round {m : Nat} {L : List (Int × Int)} (hf : Full ((m + 3 : Nat) : Int) L) (hm : m ≤ 9) : RoundP (roundL (m + 3) L) := by
  have hl := (nth_round hf).1
  refine ⟨by omega, by omega, fun i hi => ?_⟩
  have := round_bds m hf i (by omega)
  omega
/-- What Round returns, read. -/
theorem gotR_ints {n : Nat} {L : List (Int × Int)} {w : World} {e : Ending} {w' : World} (h : GotR n L w e w') : ∃ g, e = .returned (.tuple #[.slice (some ⟨g, 0, none⟩) n n, .int .i64 0]) ∧ Ints w' (some ⟨g, 0, none⟩) (roundL n L) ∧ Below w.heap.size w w' := by
  obtain ⟨g, h1, h2, h3, h4⟩ := h
  exact ⟨g, h1, blk_ints h2, h4⟩
theorem brand_roundP {n : Nat} {L : List (Int × Int)} (hB : BrandP n L) : RoundP (roundL n L) := by
  obtain ⟨m, hm, h9, hf, _⟩ := brand_nat hB
  obtain rfl : n = m + 3 := by omega
  exact full_round hf h9
theorem brand_choices {n : Nat} {L : List (Int × Int)} (hB : BrandP n L) {i k : Nat} (hi : i < n) (hk : k < n) (hik : i ≠ k) : choF (tris n L) (btw n i k) 0 = eE (roundL n L) i k ∧ 1 ≤ eE (roundL n L) i k ∧ (eE (roundL n L) i k = 1 ↔ NearP n L i k) := by
  obtain ⟨m, hm, h9, hf, _⟩ := brand_nat hB
  obtain rfl : n = m + 3 := by omega
  refine ⟨choices_between hf hi hk hik, ?_⟩
  have hp := round_pos hf (i := min i k) (k := max i k) (by omega) (by omega)
  refine ⟨hp.1, ?_⟩
  unfold eE
  rw [hp.2, nr_iff (by omega) hf.1.1 (by omega) (by omega) (by omega) (by omega)]
  rcases Nat.le_total i k with h | h
  · rw [Nat.min_eq_left h, Nat.max_eq_right h]
  · rw [Nat.min_eq_right h, Nat.max_eq_left h]
    exact ⟨Nr.symm, Nr.symm⟩
end Go.Proofs.Ytkbdclladfjmcaa
