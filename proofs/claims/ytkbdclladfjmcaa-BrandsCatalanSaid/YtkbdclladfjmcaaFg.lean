/- Layer 2: what is true of a flipped brand. -/
import Derived.Test.YtkbdclladfjmcaaMh
namespace Go.Proofs.Ytkbdclladfjmcaa
open Go Go.RowKit

theorem in_pth {L : List (Int × Int)} {x : Int × Int} : x ∈ L ↔ ∃ j, j < L.length ∧ pth L j = x := by
  rw [List.mem_iff_getElem]
  constructor
  · rintro ⟨j, hj, rfl⟩; exact ⟨j, hj, pth_get hj⟩
  · rintro ⟨j, hj, rfl⟩; exact ⟨j, hj, (pth_get hj).symm⟩
theorem flip_facts {n : Nat} {L : List (Int × Int)} (hB : BrandP n L) {i : Nat} (hi : i < L.length) :
    BrandP n (flipL n L i) ∧ 2 ≤ (tipsL n L (pth L i)).length ∧ ∃ j0, j0 < L.length ∧ (∀ k, k < L.length → (pth (flipL n L i) k ∈ L ↔ k ≠ j0)) ∧ (∀ k, k < L.length → pth (flipL n L i) k ≠ pth L i) ∧
      2 ≤ (tipsL n (flipL n L i) (pth (flipL n L i) j0)).length ∧ flipL n (flipL n L i) j0 = L := by
  obtain ⟨m, hm, h9, hf, hs⟩ := brand_nat hB
  obtain rfl : n = m + 3 := by omega
  have hl := flipL_length (m + 3) L i hi
  obtain ⟨f1, f2, f3, f4⟩ := flipL_full hf hi
  have hB2 : BrandP ((m + 3 : Nat) : Int) (flipL (m + 3) L i) := full_brand f1 f2 (by omega)
  have hT := fun {M : List (Int × Int)} (hM : Full ((m + 3 : Nat) : Int) M) (q : Int × Int) (hq : q ∈ M) => show 2 ≤ (tipsL (m + 3) M q).length from by
    obtain ⟨c, d, _, h, _⟩ := tips_list hM hq
    omega
  obtain ⟨j0, hj0, hx⟩ := in_pth.1 (f4.mem_iff.2 (List.mem_cons_self (a := otherL (m + 3) L (pth L i))))
  rw [hl] at hj0
  have hq : pth L i ∈ L := in_pth.2 ⟨i, hi, rfl⟩
  have hK := take_drop_perm L hi
  rw [← pth_get hi] at hK
  have hndL := hK.nodup_iff.1 hf.1.2.2
  refine ⟨hB2, hT hf _ hq, j0, hj0, fun k hk => ?_, fun k hk e => ?_, hT f1 _ (in_pth.2 ⟨j0, by omega, rfl⟩), flipL_back hf hs hi (by omega) hx⟩
  · constructor
    · rintro h rfl
      rw [hx] at h
      exact f3 h
    · intro hne
      have hmem : pth (flipL (m + 3) L i) k ∈ flipL (m + 3) L i := in_pth.2 ⟨k, by omega, rfl⟩
      rcases List.mem_cons.1 (f4.mem_iff.1 hmem) with h | h
      · exfalso
        have hnd := f1.1.2.2
        rw [pth_get (show k < (flipL (m + 3) L i).length by omega)] at h
        rw [pth_get (show j0 < (flipL (m + 3) L i).length by omega)] at hx
        exact hne ((List.getElem_inj hnd).1 (h.trans hx.symm))
      · exact hK.mem_iff.2 (List.mem_cons_of_mem _ h)
  · have hmem : pth (flipL (m + 3) L i) k ∈ flipL (m + 3) L i := in_pth.2 ⟨k, by omega, rfl⟩
    rcases List.mem_cons.1 (f4.mem_iff.1 hmem) with h | h
    · rw [e] at h
      rw [← h] at f3
      exact f3 hq
    · rw [e] at h
      exact (List.nodup_cons.1 hndL).1 h
end Go.Proofs.Ytkbdclladfjmcaa
