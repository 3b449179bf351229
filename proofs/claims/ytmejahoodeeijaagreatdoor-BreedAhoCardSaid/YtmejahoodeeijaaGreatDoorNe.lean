/- Layer 5: BreedAho, as facts on what the functions return. -/
import Derived.Test.YtmejahoodeeijaaGreatDoorNa
import Derived.Test.YtmejahoodeeijaaGreatDoorHd
import Derived.Test.YtmejahoodeeijaaGreatDoorOa
namespace Go.Proofs.YtmejahoodeeijaaGreatDoor
open Go Go.RowKit

theorem and_pred : ∀ k, k < 512 → 3 ≤ cntF k 9 → k &&& (k - 1) ≠ 0 := by decide +kernel
theorem firstN_is {p : Nat → Bool} {n s : Nat} (h : FirstN p n = some s) : s < n ∧ p s = true := by
  unfold FirstN at h
  exact ⟨List.mem_range.1 (List.mem_of_find?_eq_some h), List.find?_some h⟩
theorem parts_whole {L : List T3} {s : Nat} (hs : s < 512) (h : (partsL L s).length = 1) : partsL L s = [s] := by
  obtain ⟨p, hp⟩ := List.length_eq_one_iff.1 h
  have hP := parts_part hs L
  rw [hp] at hP
  rw [hp]
  congr 1
  apply Nat.eq_of_testBit_eq
  intro i
  have := hP.all i
  simp only [List.mem_singleton, exists_eq_left] at this
  cases h1 : p.testBit i <;> cases h2 : s.testBit i <;> simp_all
theorem sho_err {n : Int} {s : List UInt8} {L : List T3} (h : (shoE n s L).1 = true) : (shoE n s L).2 = 0 := by
  cases hn : numB n
  · unfold shoE at h
    rw [if_pos hn] at h
    cases h
  · unfold shoE at h ⊢
    rw [if_neg (by rw [hn]; simp)] at h ⊢
    cases ht : trO n.toNat s with
    | none => rw [ht] at h; cases h
    | some t =>
      rw [ht] at h
      simp only [] at h ⊢
      by_cases h0 : memE n L = 0
      · rw [if_pos h0]
      · rw [if_neg h0] at h; cases h
theorem aho_math {m : Nat} {L : List T3} (s : List UInt8) (h : Mem m L) (hl : L.length ≤ 60) :
    (∃ t : List UInt8, bldE m L = (t, 0) ∧ kntE m L = (0, 10) ∧ shoE m t L = (true, 0) ∧ isE m t = true) ∨
    (bldE m L = ([], 10) ∧ (∃ k : Nat, kntE m L = ((k : Int), 0) ∧ joiE m L k = ([k], 0) ∧ k < 512 ∧ k &&& (k - 1) ≠ 0) ∧ (shoE m s L).1 = false) := by
  have hk := aho_knot h
  have hmem := h.memE hl
  cases hb : bldT m L with
  | some t =>
    rw [hb] at hk
    refine .inl ⟨t.txt, bldE_some h hl hb, ?_, ?_, ?_⟩
    · unfold kntE
      rw [if_pos hmem, Int.toNat_natCast]
      cases hf : FirstN (kntB L) (pw m) with
      | none => rfl
      | some s => rw [hf] at hk; cases hk
    · rw [shoE_some h hl (bld_isTr h hb), aho_shows h hb]
    · unfold isE
      rw [h.num, Int.toNat_natCast, bld_isTr h hb]
      rfl
  | none =>
    rw [hb] at hk
    refine .inr ⟨bldE_none h hl hb, ?_, ?_⟩
    · cases hf : FirstN (kntB L) (pw m) with
      | none => rw [hf] at hk; cases hk
      | some k =>
        obtain ⟨hlt, hkb⟩ := firstN_is hf
        unfold kntB at hkb
        simp only [Bool.and_eq_true, decide_eq_true_eq] at hkb
        have h8 := pw_mono (k := 8) h.eight
        have h256 : pw 8 = 256 := rfl
        have hk0 : 0 < k := Nat.pos_of_ne_zero fun e => by
          have h3 := hkb.1
          subst e
          have : cntF 0 9 = 0 := by decide
          omega
        refine ⟨k, ?_, ?_, by omega, and_pred k (by omega) hkb.1⟩
        · unfold kntE
          rw [if_pos hmem, Int.toNat_natCast, hf]
        · unfold joiE
          rw [if_pos hmem, Int.toNat_natCast, Int.toNat_natCast, if_pos, parts_whole (by omega) hkb.2]
          unfold stB
          simp only [Bool.and_eq_true, decide_eq_true_eq]
          omega
    · cases ht : trO m s with
      | none => rw [shoE_none h ht]
      | some t =>
        rw [shoE_some h hl ht]
        cases hx : L.all (shoB t)
        · rfl
        · have hT := trO_set ht
          have := aho_some8 h hT.1 hT.2.2 hx
          rw [hb] at this
          cases this
end Go.Proofs.YtmejahoodeeijaaGreatDoor
