/- Layer 4: mathematics for AmbushBegins. -/
import Derived.Test.YtbdhceolchhnjaaDoorGc
import Derived.Test.YtbdhceolchhnjaaDoorTa
namespace Go.Proofs.YtbdhceolchhnjaaDoor
open Go Go.RowKit

theorem has_none {m : Nat} {R : List Int} (hF : FieldP m R) : hasOne R 0 = false := by
  cases h : hasOne R 0
  · rfl
  · obtain ⟨z, hz, h1⟩ := List.any_eq_true.1 h
    have h2 := inB_le h1
    have := (hF.line z hz).1
    omega
theorem frL_all (m : Nat) : frL m 0 0 = List.range m := by
  unfold frL
  rw [List.filter_eq_self]
  intro x _
  unfold frB
  simp
theorem wB_aft (m : Nat) (R : List Int) (i : Nat) : wB m R 0 0 1 i = !(aftB m R 0 0 1 i) := by
  unfold wB wafter aftB
  cases win m R (tkW 0 1 i) (tkD 0 1 i) (1 - 1 == 1) <;> rfl
theorem begin_one {m : Nat} {R : List Int} (hF : FieldP m R) : (!(win m R 0 0 true)) = decide (0 < (gdL m R).length) := by
  have hl : frL m 0 0 ≠ [] := by
    rw [frL_all]
    intro h
    have := congrArg List.length h
    have h2 := hF.pos
    simp at this
    omega
  have h1 := any_wB (m := m) (R := R) (x := 0) (y := 0) (s := 1) (by omega) (has_none hF) hl
  have h2 : (frL m 0 0).any (wB m R 0 0 1) = decide (0 < (gdL m R).length) := by
    rw [Bool.eq_iff_iff, decide_eq_true_eq, List.any_eq_true]
    constructor
    · rintro ⟨x, hx, hp⟩
      exact List.length_pos_of_mem (List.mem_filter.2 ⟨hx, hp⟩)
    · intro h
      obtain ⟨x, hx⟩ := List.exists_mem_of_length_pos h
      exact ⟨x, (List.mem_filter.1 hx).1, (List.mem_filter.1 hx).2⟩
  rw [← h2, h1]
  show _ = (sd (win m R 0 0 true) == 1)
  cases win m R 0 0 true <;> rfl
theorem gd_kp (m : Nat) (R : List Int) : gdL m R = kpF (wB m R 0 0 1) (List.range m) m := by
  unfold gdL kpF
  rw [frL_all, List.take_of_length_le (by simp)]
theorem gd_at {m : Nat} {R : List Int} {i : Nat} (hi : i < m) :
    if wB m R 0 0 1 i = true then (kpF (wB m R 0 0 1) (List.range m) i).length < (gdL m R).length ∧ (gdL m R).getD (kpF (wB m R 0 0 1) (List.range m) i).length 0 = i
    else (kpF (wB m R 0 0 1) (List.range m) i).length < (gdL m R).length → (gdL m R).getD (kpF (wB m R 0 0 1) (List.range m) i).length 0 ≠ i := by
  have e : gdL m R = kpF (wB m R 0 0 1) (List.range m) (i + 1) ++ ((List.range m).drop (i + 1)).filter (wB m R 0 0 1) := by
    unfold gdL kpF
    rw [frL_all, ← List.filter_append, List.take_append_drop]
  have hn := kpF_next (q := wB m R 0 0 1) (l := List.range m) (j := i) (by simpa using hi)
  have hg : (List.range m).getD i 0 = i := by simp [hi]
  rw [hg] at hn
  split
  · rename_i hq
    rw [hq, if_pos rfl] at hn
    rw [hn] at e
    rw [e]
    constructor
    · simp
    · simp [List.getD_eq_getElem?_getD, List.append_assoc]
  · rename_i hq
    rw [if_neg hq] at hn
    rw [hn] at e
    intro hlt
    rw [e] at hlt ⊢
    rw [List.length_append] at hlt
    generalize hr : ((List.range m).drop (i + 1)).filter (wB m R 0 0 1) = r at *
    cases r with
    | nil => simp at hlt
    | cons a r =>
      have ha : a ∈ ((List.range m).drop (i + 1)).filter (wB m R 0 0 1) := by rw [hr]; exact List.mem_cons_self
      obtain ⟨t, ht, h2⟩ := List.getElem_of_mem (List.mem_filter.1 ha).1
      rw [List.getElem_drop, List.getElem_range] at h2
      have : (kpF (wB m R 0 0 1) (List.range m) i ++ a :: r).getD (kpF (wB m R 0 0 1) (List.range m) i).length 0 = a := by
        simp [List.getD_eq_getElem?_getD]
      rw [this]
      omega
theorem cnt_none {s m : Nat} (hs : s < pw m) (h : cntF s m = 0) : s = 0 := by
  apply Nat.eq_of_testBit_eq
  intro i
  rw [Nat.zero_testBit]
  by_cases hi : i < m
  · rw [cntF_len, List.length_eq_zero_iff, List.filter_eq_nil_iff] at h
    have := h i (List.mem_range.2 hi)
    simpa using this
  · exact Nat.testBit_lt_two_pow (Nat.lt_of_lt_of_le hs (pw_mono (by omega)))
theorem cnt_of_zero (m : Nat) : cntF 0 m = 0 := by
  rw [cntF_len, List.length_eq_zero_iff, List.filter_eq_nil_iff]
  intro i _
  simp
theorem begin_two {m : Nat} {R : List Int} (hF : FieldP m R) : decide (ndTo m R (pw m) = 0) = win m R 0 0 true := by
  rw [Bool.eq_iff_iff, decide_eq_true_eq]
  constructor
  · intro h
    rcases ndTo_hit m R (pw m) with h1 | ⟨s, h1, h2, h3⟩
    · have := hF.pos; omega
    · rw [h] at h3
      have := cnt_none h1 h3
      rw [this] at h2
      exact h2
  · intro h
    have := ndTo_low m R (pw m) 0 (pw_pos m) h
    rw [cnt_of_zero] at this
    omega
theorem wl_dot {m s : Nat} : ∀ k, k ≤ m → dotN (wlS m s) k + cntF s k = k := by
  intro k
  induction k with
  | zero => intro _; rfl
  | succ k ih =>
    intro h
    have := ih (by omega)
    rw [dotN, cntF, wlS_at (by omega)]
    unfold wlB
    have h2 := bt_lt s k
    by_cases e : bt s k = 1
    · rw [if_pos e, if_neg (by omega)]; omega
    · rw [if_neg e, if_pos rfl]; omega
theorem wl_W {m s : Nat} (hs : s < pw m) : psB (wlS m s) 119 m = s := by
  apply Nat.eq_of_testBit_eq
  intro i
  rw [psB_test]
  by_cases hi : i < m
  · rw [wlS_at hi]
    unfold wlB
    by_cases e : bt s i = 1
    · rw [if_pos e, bt_one.1 e]; simp [hi]
    · have h0 : bt s i = 0 := by have := bt_lt s i; omega
      rw [if_neg e, bt_zero.1 h0]; simp
  · rw [Nat.testBit_lt_two_pow (Nat.lt_of_lt_of_le hs (pw_mono (show m ≤ i by omega)))]
    simp [hi]
theorem wl_D (m s : Nat) : psB (wlS m s) 100 m = 0 := by
  apply Nat.eq_of_testBit_eq
  intro i
  rw [psB_test, Nat.zero_testBit]
  by_cases hi : i < m
  · rw [wlS_at hi]
    unfold wlB
    split <;> simp
  · simp [hi]
theorem wl_ok (m s : Nat) : okS (wlS m s) = true := okS_of fun i hi => by
  rw [wlS_size] at hi
  rw [wlS_at hi]
  unfold wlB
  split <;> omega
theorem begin_three {m : Nat} {R : List Int} {s : Nat} (hs : s < pw m) (h : win m R s 0 true = true) : ndTo m R (pw m) + dotN (wlS m s) m ≤ m := by
  have h1 := ndTo_low m R (pw m) s hs h
  have h2 := wl_dot (s := s) m (Nat.le_refl m)
  omega
end Go.Proofs.YtbdhceolchhnjaaDoor
