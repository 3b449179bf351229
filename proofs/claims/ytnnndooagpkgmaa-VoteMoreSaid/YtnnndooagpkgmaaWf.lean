/- Layer 3: a game is known by its least winning sets; the other game. -/
import Derived.Test.YtnnndooagpkgmaaWe
namespace Go.Proofs.Ytnnndooagpkgmaa
open Go Go.RowKit

theorem sorted_ext {l k : List Nat} (h1 : l.Pairwise (· < ·)) (h2 : k.Pairwise (· < ·)) (h : ∀ x, x ∈ l ↔ x ∈ k) : l = k := by
  induction l generalizing k with
  | nil =>
    cases k with
    | nil => rfl
    | cons b k => exact absurd ((h b).2 (by simp)) (by simp)
  | cons a l ih =>
    cases k with
    | nil => exact absurd ((h a).1 (by simp)) (by simp)
    | cons b k =>
      rw [List.pairwise_cons] at h1 h2
      have hab : a = b := by
        have e1 := (h a).1 (by simp)
        have e2 := (h b).2 (by simp)
        rw [List.mem_cons] at e1 e2
        rcases e1 with e1 | e1
        · exact e1
        · rcases e2 with e2 | e2
          · exact e2.symm
          · have := h1.1 b e2; have := h2.1 a e1; omega
      subst hab
      congr 1
      refine ih h1.2 h2.2 fun x => ⟨fun hx => ?_, fun hx => ?_⟩
      · have := (h x).1 (by simp [hx])
        rw [List.mem_cons] at this
        rcases this with e | e
        · subst e; have := h1.1 x hx; omega
        · exact e
      · have := (h x).2 (by simp [hx])
        rw [List.mem_cons] at this
        rcases this with e | e
        · subst e; have := h2.1 x hx; omega
        · exact e
theorem range_sorted (n : Nat) : (List.range n).Pairwise (· < ·) := List.pairwise_lt_range
theorem leastL_sorted {n : Nat} {f : Nat → Bool} (g : Game n f) : (leastL f (pw n)).Pairwise (· < ·) := by
  rw [leastL_filter g _ (Nat.le_refl _)]
  exact (range_sorted _).filter _
theorem leastL_mem_iff {n : Nat} {f : Nat → Bool} (g : Game n f) (s : Nat) : s ∈ leastL f (pw n) ↔ s < pw n ∧ isLeast n f s = true := by
  rw [leastL_filter g _ (Nat.le_refl _), List.mem_filter, List.mem_range]
theorem leastL_congr {f g : Nat → Bool} {k : Nat} (h : ∀ s, s < k → f s = g s) : leastL f k = leastL g k := by
  induction k with
  | zero => rfl
  | succ k ih => rw [leastL, leastL, ih (fun s hs => h s (by omega)), h k (by omega)]
/-- A set wins if it contains a least winning set. -/
theorem hasOne_least {n : Nat} {f : Nat → Bool} (g : Game n f) {s : Nat} (hs : s < pw n) : hasOne (lN (leastL f (pw n))) s = f s := by
  rw [hasOne_lN, Bool.eq_iff_iff, List.any_eq_true]
  constructor
  · rintro ⟨o, ho, hin⟩
    obtain ⟨h1, h2⟩ := (leastL_mem_iff g o).1 ho
    exact g.mono o s h1 hs hin (isLeast_iff.1 h2).1
  · intro hf
    obtain ⟨o, h1, h2, h3⟩ := least_in (n := n) s hs hf
    exact ⟨o, (leastL_mem_iff g o).2 ⟨by omega, h3⟩, h2⟩
theorem least_ne_sub {n : Nat} {f : Nat → Bool} (g : Game n f) {o s : Nat} (ho : f o = true) (hs : s < pw n) (hl : isLeast n f s = true) (hin : inB o s = true) : o = s := by
  apply Classical.byContradiction
  intro hne
  obtain ⟨i, hb, hd⟩ := inB_drop hin hne
  have hle := (sub_test hb).1
  have := g.mono o (s - pw i) (by have := inB_le hin; omega) (by omega) hd ho
  rw [(isLeast_iff.1 hl).2 i (test_lt hs hb) hb] at this
  cases this
theorem lN_nth {L : List Nat} {i : Nat} (h : i < L.length) : nth (lN L) i = ((L.getD i 0 : Nat) : Int) := by simp [nth, lN, h]
/-- The least winning sets of a game are a rule. -/
theorem rule_least {n : Nat} {f : Nat → Bool} (g : Game n f) (h1 : 1 ≤ n) (h5 : n ≤ 5) : RuleP n (lN (leastL f (pw n))) := by
  have hs := leastL_sorted g
  have hm := leastL_mem_iff g
  have hne : 0 < (leastL f (pw n)).length := by
    obtain ⟨o, e1, e2, e3⟩ := least_in (n := n) (pw n - 1) (by have := pw_pos n; omega) g.full
    exact List.length_pos_of_mem ((hm o).2 ⟨by have := pw_pos n; omega, e3⟩)
  refine ⟨h1, h5, by rw [lN_length]; exact hne, fun i hi => ?_⟩
  rw [lN_length] at hi
  generalize hL : leastL f (pw n) = L at *
  have hget : ∀ j, j < L.length → L.getD j 0 ∈ L := fun j hj => by
    rw [List.getD_eq_getElem?_getD, List.getElem?_eq_getElem hj]; exact List.getElem_mem hj
  obtain ⟨e1, e2⟩ := (hm _).1 (hget i hi)
  have e3 := (isLeast_iff.1 e2).1
  unfold RuleOk
  rw [lN_nth hi]
  refine ⟨?_, by omega, fun h0 => ?_, ?_⟩
  · cases hz : L.getD i 0 with
    | zero => rw [hz, g.zero] at e3; cases e3
    | succ k => omega
  · rw [lN_nth (show i - 1 < L.length by omega)]
    have := List.pairwise_iff_getElem.1 hs (i - 1) i (by omega) hi (by omega)
    simp only [List.getD_eq_getElem?_getD, List.getElem?_eq_getElem hi, List.getElem?_eq_getElem (show i - 1 < L.length by omega), Option.getD_some]
    omega
  · rw [Int.toNat_natCast]
    cases hh : hasOne ((lN L).take i) (L.getD i 0)
    · rfl
    · exfalso
      obtain ⟨j, hj, hin⟩ := (hasOne_take (by rw [lN_length]; omega)).1 hh
      rw [lN_nth (show j < L.length by omega), Int.toNat_natCast] at hin
      obtain ⟨k1, k2⟩ := (hm _).1 (hget j (by omega))
      have heq := least_ne_sub g (isLeast_iff.1 k2).1 e1 e2 hin
      have := List.pairwise_iff_getElem.1 hs j i (by omega) hi hj
      simp only [List.getD_eq_getElem?_getD, List.getElem?_eq_getElem hi, List.getElem?_eq_getElem (show j < L.length by omega), Option.getD_some] at heq
      omega
/-- A rule as sets. -/
theorem rule_sets {n : Nat} {R : List Int} (h : RuleP n R) : R = lN (R.map Int.toNat) := by
  apply ext_nth
  · simp [lN]
  · intro i hi
    rw [lN_nth (by simpa using hi)]
    have := (h.2.2.2 i hi).1
    simp [nth, hi] at this ⊢
    omega
/-- The least winning sets of a rule are the rule. -/
theorem least_rule {n : Nat} {R : List Int} (h : RuleP n R) : lN (leastL (hasOne R) (pw n)) = R := by
  have g := game_rule h
  rw [rule_sets h]
  congr 1
  rw [← rule_sets h]
  refine sorted_ext (leastL_sorted g) ?_ fun x => ?_
  · rw [List.pairwise_iff_getElem]
    intro i j hi hj hij
    simp only [List.length_map] at hi hj
    have h1 := h.2.2.2.asc j hj i hij
    have h2 := (h.2.2.2 i hi).1
    simp [nth, hi, hj] at h1 h2 ⊢
    omega
  · rw [leastL_mem_iff g, List.mem_map]
    constructor
    · rintro ⟨hx, hl⟩
      obtain ⟨i, hi, hin⟩ := hasOne_iff.1 (isLeast_iff.1 hl).1
      have hw : hasOne R (nth R i).toNat = true := hasOne_iff.2 ⟨i, hi, inB_refl _⟩
      exact ⟨nth R i, nth_mem hi, least_ne_sub g hw hx hl hin⟩
    · rintro ⟨y, hy, rfl⟩
      obtain ⟨i, hi, rfl⟩ := mem_nth hy
      obtain ⟨r1, r2, r3, r4⟩ := h.2.2.2 i hi
      refine ⟨by omega, isLeast_iff.2 ⟨hasOne_iff.2 ⟨i, hi, inB_refl _⟩, fun d _ hb => ?_⟩⟩
      cases hh : hasOne R ((nth R i).toNat - pw d)
      · rfl
      · exfalso
        obtain ⟨j, hj, hin⟩ := hasOne_iff.1 hh
        have hin2 := inB_trans hin (inB_sub hb)
        have hp := pw_pos d
        have hle := (sub_test hb).1
        have hle2 := inB_le hin
        rcases Nat.lt_trichotomy j i with e | e | e
        · have := (hasOne_take (R := R) (i := i) (x := (nth R i).toNat) (by omega)).2 ⟨j, e, hin2⟩
          rw [r4] at this
          cases this
        · subst e; omega
        · have h1 := h.2.2.2.asc j hj i e
          have h2 := (h.2.2.2 j hj).1
          omega
theorem inB_flip {a b n : Nat} (ha : a < pw n) (hb : b < pw n) (h : inB a b = true) : inB (pw n - 1 - b) (pw n - 1 - a) = true := by
  rw [← dif_full ha, ← dif_full hb]
  refine inB_iff.2 fun i hi => ?_
  rw [dif_test] at hi ⊢
  simp only [Bool.and_eq_true, Bool.not_eq_true'] at hi ⊢
  refine ⟨hi.1, ?_⟩
  cases hai : a.testBit i
  · rfl
  · have := inB_iff.1 h i hai
    rw [hi.2] at this
    cases this
/-- The other game. -/
theorem game_oth {n : Nat} {f : Nat → Bool} (g : Game n f) : Game n (othF f n) where
  zero := by unfold othF; rw [Nat.sub_zero, g.full]; rfl
  full := by unfold othF; rw [Nat.sub_self, g.zero]; rfl
  mono := fun a b ha hb hab hf => by
    unfold othF at *
    have hp := pw_pos n
    cases h : f (pw n - 1 - b)
    · rfl
    · have := g.mono _ (pw n - 1 - a) (by omega) (by omega) (inB_flip ha hb hab) h
      rw [this] at hf
      cases hf
theorem oth_oth {n : Nat} {f : Nat → Bool} {s : Nat} (hs : s < pw n) : othF (othF f n) n s = f s := by
  unfold othF
  rw [Bool.not_not, show pw n - 1 - (pw n - 1 - s) = s by omega]
end Go.Proofs.Ytnnndooagpkgmaa
