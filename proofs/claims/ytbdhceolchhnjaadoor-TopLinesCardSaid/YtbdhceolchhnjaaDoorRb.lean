/- Layer 4: AmbushMoves returns true, and changes nothing. -/
import Derived.Test.YtbdhceolchhnjaaDoorRa
import Derived.Test.YtbdhceolchhnjaaDoorQc
namespace Go.Proofs.YtbdhceolchhnjaaDoor
open Go Go.RowKit

theorem mvL_le {l : List Nat} {p : Nat → Bool} (hl : l.Pairwise (· < ·)) {t : Nat} (ht : t ∈ l) (hp : p t = true) : mvL l p ≤ t := by
  unfold mvL
  induction l with
  | nil => cases ht
  | cons a l ih =>
    rw [List.pairwise_cons] at hl
    by_cases e : p a = true
    · rw [List.find?_cons_of_pos e]
      show a ≤ t
      rcases List.mem_cons.1 ht with rfl | h
      · exact Nat.le_refl _
      · exact Nat.le_of_lt (hl.1 t h)
    · rw [List.find?_cons_of_neg e]
      rcases List.mem_cons.1 ht with rfl | h
      · exact absurd hp e
      · have h2 := ih hl.2 h
        have h3 : (l.find? p).isSome := List.find?_isSome.2 ⟨t, h, hp⟩
        obtain ⟨y, hy⟩ := Option.isSome_iff_exists.1 h3
        rw [hy] at h2 ⊢
        exact h2
theorem frL_pair (m w d : Nat) : (frL m w d).Pairwise (· < ·) := List.Pairwise.filter _ List.pairwise_lt_range
/-- Who wins after a spot is taken. -/
def aftB (m : Nat) (R : List Int) (u v sn i : Nat) : Bool := win m R (tkW u sn i) (tkD v sn i) (1 - sn == 1)
theorem moves_fact {m : Nat} {R : List Int} {u v sn : Nat} (hs : sn < 2) (hw : hasOne R u = false) (hl : frL m u v ≠ []) :
    mvL (frL m u v) (wB m R u v sn) ∈ frL m u v ∧ (sd (win m R u v (sn == 1)) == sn) = (sd (aftB m R u v sn (mvL (frL m u v) (wB m R u v sn))) == sn) ∧
    ∀ t ∈ frL m u v, (sd (aftB m R u v sn t) == sn) = true → (sd (win m R u v (sn == 1)) == sn) = true ∧ mvL (frL m u v) (wB m R u v sn) ≤ t := by
  obtain ⟨h1, h2⟩ := mvL_mem (p := wB m R u v sn) hl
  have h3 := any_wB (m := m) (R := R) (x := u) (y := v) hs hw hl
  refine ⟨h1, h3.symm.trans h2.symm, fun t ht hb => ⟨?_, mvL_le (frL_pair _ _ _) ht hb⟩⟩
  rw [← h3]
  exact List.any_eq_true.2 ⟨t, ht, hb⟩
/-- The spots after one is taken in the text. -/
theorem setS_W {s : ByteArray} {m k : Nat} (hs : s.size = m) (hk : k < m) (hd : bytA s k = 46) : psB (setS s k 119) 119 m = tkW (psB s 119 m) 0 k ∧ psB (setS s k 119) 100 m = tkD (psB s 100 m) 0 k := by
  constructor
  · apply Nat.eq_of_testBit_eq
    intro i
    rw [setS_psB hs hk (by omega)]
    unfold tkW
    rw [if_pos rfl, Nat.testBit_or, psB_test, pw, Nat.testBit_two_pow]
    by_cases e : i = k
    · subst e; simp [hk]
    · have e2 : ¬ k = i := fun h => e h.symm
      simp [e, e2]
  · apply Nat.eq_of_testBit_eq
    intro i
    rw [setS_psB hs hk (by omega)]
    unfold tkD
    rw [if_pos rfl, psB_test]
    by_cases e : i = k
    · subst e; simp [hd]
    · have e2 : ¬ k = i := fun h => e h.symm
      simp [e, e2]
theorem setS_D {s : ByteArray} {m k : Nat} (hs : s.size = m) (hk : k < m) (hd : bytA s k = 46) : psB (setS s k 100) 119 m = tkW (psB s 119 m) 1 k ∧ psB (setS s k 100) 100 m = tkD (psB s 100 m) 1 k := by
  constructor
  · apply Nat.eq_of_testBit_eq
    intro i
    rw [setS_psB hs hk (by omega)]
    unfold tkW
    rw [if_neg (show ¬ ((1 : Nat) = 0) by omega), psB_test]
    by_cases e : i = k
    · subst e; simp [hd]
    · have e2 : ¬ k = i := fun h => e h.symm
      simp [e, e2]
  · apply Nat.eq_of_testBit_eq
    intro i
    rw [setS_psB hs hk (by omega)]
    unfold tkD
    rw [if_neg (show ¬ ((1 : Nat) = 0) by omega), Nat.testBit_or, psB_test, pw, Nat.testBit_two_pow]
    by_cases e : i = k
    · subst e; simp [hk]
    · have e2 : ¬ k = i := fun h => e h.symm
      simp [e, e2]
theorem mvE_pos {m : Nat} {R : List Int} {s t : ByteArray} (h : tE (m : Int) R s t = 0) : mvE (m : Int) R s t = if frL m (psB s 119 m) (psB s 100 m) = [] ∨ hasOne R (psB s 119 m) = true then 9 else 0 := by
  unfold mvE
  rw [if_pos h]; rfl
end Go.Proofs.YtbdhceolchhnjaaDoor
