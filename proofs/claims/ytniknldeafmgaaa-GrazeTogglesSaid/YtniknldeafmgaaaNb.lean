/- Layer 8, mathematics: a + b days, by trying all states. -/
import Derived.Test.YtniknldeafmgaaaGk
namespace Go.Proofs.Ytniknldeafmgaaa
set_option linter.unusedSimpArgs false
set_option linter.unusedVariables false

/-- The next day of a list of rows, the first of which can have m. -/
def dl : Nat → List Nat → List Nat
  | _, [] => []
  | m, x :: xs => (if x < m then x + 1 else (dl x xs).headD 0) :: dl x xs
/-- The day before. -/
def bl : Nat → List Nat → List Nat
  | _, [] => []
  | r, x :: xs => (if xs.headD 0 < x then x - 1 else r) :: bl (if xs.headD 0 < x then x - 1 else r) xs
def itl (b : Nat) : Nat → List Nat → List Nat
  | 0, L => L
  | k + 1, L => itl b k (dl b L)
/-- All states. -/
def sts : Nat → Nat → List (List Nat)
  | _, 0 => [[]]
  | m, a + 1 => (List.range (m + 1)).flatMap fun x => (sts x a).map (x :: ·)
def stB : Nat → List Nat → Bool
  | _, [] => true
  | m, x :: xs => decide (x ≤ m) && stB x xs
def all6 (p : Nat → Nat → List Nat → Bool) : Bool := [1, 2, 3, 4, 5, 6].all fun a => [1, 2, 3, 4, 5, 6].all fun b => (sts b a).all (p a b)
set_option maxRecDepth 100000 in
theorem per6 : all6 (fun a b L => itl b (a + b) L == L && stB b (dl b L) && (bl b (dl b L) == L) && stB b (bl b L) && (dl b (bl b L) == L)) = true := by decide +kernel
/-- The rows from the r-th on. -/
def stR (g : Nat → Nat) : Nat → Nat → List Nat
  | _, 0 => []
  | r, n + 1 => g r :: stR g (r + 1) n
theorem stR_head (g : Nat → Nat) (r n : Nat) : (stR g r n).headD 0 = if n = 0 then 0 else g r := by cases n <;> rfl
theorem stR_eq {g h : Nat → Nat} : ∀ {n r : Nat}, stR g r n = stR h r n → ∀ i, r ≤ i → i < r + n → g i = h i
  | 0, r, _, i, h1, h2 => by omega
  | n + 1, r, e, i, h1, h2 => by
    simp only [stR, List.cons.injEq] at e
    by_cases hi : i = r
    · rw [hi]; exact e.1
    · exact stR_eq e.2 i (by omega) (by omega)
theorem stR_congr {g h : Nat → Nat} : ∀ {n r : Nat}, (∀ i, r ≤ i → i < r + n → g i = h i) → stR g r n = stR h r n
  | 0, _, _ => rfl
  | n + 1, r, e => by
    simp only [stR, List.cons.injEq]
    exact ⟨e r (by omega) (by omega), stR_congr fun i h1 h2 => e i (by omega) (by omega)⟩
theorem fun_of {g h : Nat → Nat} {a : Nat} (hg : ∀ i, a ≤ i → g i = 0) (hh : ∀ i, a ≤ i → h i = 0) (e : stR g 0 a = stR h 0 a) : g = h := by
  funext i
  by_cases hi : i < a
  · exact stR_eq e i (by omega) (by omega)
  · rw [hg i (by omega), hh i (by omega)]
theorem mo_succ (b : Nat) (g : Nat → Nat) (r : Nat) : mo b g (r + 1) = g r := by unfold mo; rw [if_neg (by omega)]; rfl
theorem dr_at' (a b : Nat) (g : Nat → Nat) {r : Nat} (h : r < a) : dr a b g (a - r) = if g r < mo b g r then g r + 1 else dr a b g (a - (r + 1)) := by
  rw [show a - r = (a - (r + 1)) + 1 by omega]
  conv => lhs; unfold dr
  rw [show a - 1 - (a - (r + 1)) = r by omega]
theorem dl_day (a b : Nat) (g : Nat → Nat) : ∀ n r, r + n = a → dl (mo b g r) (stR g r n) = stR (dayF a b g) r n
  | 0, _, _ => rfl
  | n + 1, r, h => by
    have ih := dl_day a b g n (r + 1) (by omega)
    rw [mo_succ] at ih
    simp only [stR, dl, ih, List.cons.injEq, and_true]
    have e : dayF a b g r = dr a b g (a - r) := if_pos (by omega)
    rw [e, dr_at' a b g (by omega), stR_head]
    split
    · rfl
    · by_cases hn : n = 0
      · rw [if_pos hn, show a - (r + 1) = 0 by omega]; rfl
      · rw [if_neg hn]
        exact if_pos (by omega)
theorem bl_back (a b : Nat) (g : Nat → Nat) : ∀ n r, r + n = a → bl (bk a b g r) (stR g r n) = stR (bakF a b g) r n
  | 0, _, _ => rfl
  | n + 1, r, h => by
    have ih := bl_back a b g n (r + 1) (by omega)
    have e : bakF a b g r = bk a b g (r + 1) := if_pos (by omega)
    have el : (stR g (r + 1) n).headD 0 = lea a g r := by
      rw [stR_head]
      unfold lea
      by_cases hn : n = 0
      · rw [if_pos hn, if_pos (by omega)]
      · rw [if_neg hn, if_neg (by omega)]
    have ek : (if lea a g r < g r then g r - 1 else bk a b g r) = bk a b g (r + 1) := rfl
    simp only [stR, bl, el, ek, ih, e]
theorem sts_mem (b : Nat) {g : Nat → Nat} (h : ∀ i, g i ≤ mo b g i) : ∀ n r, stR g r n ∈ sts (mo b g r) n
  | 0, r => by simp [stR, sts]
  | n + 1, r => by
    have ih := sts_mem b h n (r + 1)
    rw [mo_succ] at ih
    simp only [stR, sts, List.mem_flatMap, List.mem_range, List.mem_map]
    exact ⟨g r, by have := h r; omega, _, ih, rfl⟩
theorem IsS.mem {a b : Nat} {g : Nat → Nat} (h : IsS a b g) : stR g 0 a ∈ sts b a := sts_mem b h.mo_le a 0
theorem stB_dn : ∀ {n r : Nat} {g : Nat → Nat} {m : Nat}, stB m (stR g r n) = true → (0 < n → g r ≤ m) ∧ ∀ i, r ≤ i → i + 1 < r + n → g (i + 1) ≤ g i
  | 0, r, g, m, _ => ⟨fun h => by omega, fun i _ _ => by omega⟩
  | n + 1, r, g, m, h => by
    simp only [stR, stB, Bool.and_eq_true, decide_eq_true_eq] at h
    obtain ⟨h1, h2⟩ := stB_dn h.2
    refine ⟨fun _ => h.1, fun i hi1 hi2 => ?_⟩
    by_cases e : i = r
    · subst e; exact h1 (by omega)
    · exact h2 i (by omega) (by omega)
theorem stB_S {a b : Nat} {g : Nat → Nat} (hp : IsP a b g) (hz : ∀ i, a ≤ i → g i = 0) (h : stB b (stR g 0 a) = true) : IsS a b g := by
  obtain ⟨_, h2⟩ := stB_dn h
  refine ⟨hp, fun i => ?_, hz⟩
  by_cases hi : i + 1 < a
  · exact h2 i (by omega) (by omega)
  · rw [hz (i + 1) (by omega)]; omega
theorem all6_at {p : Nat → Nat → List Nat → Bool} (h : all6 p = true) {a b : Nat} {g : Nat → Nat} (hs : IsS a b g) : p a b (stR g 0 a) = true := by
  obtain ⟨h1, h2, h3, h4, _⟩ := hs.p
  have ha : a ∈ [1, 2, 3, 4, 5, 6] := by simp; omega
  have hb : b ∈ [1, 2, 3, 4, 5, 6] := by simp; omega
  unfold all6 at h
  rw [List.all_eq_true] at h
  have := h a ha
  rw [List.all_eq_true] at this
  have := this b hb
  rw [List.all_eq_true] at this
  exact this _ hs.mem
theorem dayF_z (a b : Nat) (g : Nat → Nat) : ∀ i, a ≤ i → dayF a b g i = 0 := fun i hi => if_neg (by omega)
theorem bakF_z (a b : Nat) (g : Nat → Nat) : ∀ i, a ≤ i → bakF a b g i = 0 := fun i hi => if_neg (by omega)
theorem dl_day0 (a b : Nat) (g : Nat → Nat) : dl b (stR g 0 a) = stR (dayF a b g) 0 a := dl_day a b g a 0 (by omega)
theorem bl_back0 (a b : Nat) (g : Nat → Nat) : bl b (stR g 0 a) = stR (bakF a b g) 0 a := bl_back a b g a 0 (by omega)
theorem dayF_S {a b : Nat} {g : Nat → Nat} (h : IsS a b g) : IsS a b (dayF a b g) := by
  have := all6_at per6 h
  simp only [Bool.and_eq_true, beq_iff_eq] at this
  exact stB_S (dayF_P h.p) (dayF_z a b g) (by rw [← dl_day0]; exact this.1.1.1.2)
theorem bakF_S {a b : Nat} {g : Nat → Nat} (h : IsS a b g) : IsS a b (bakF a b g) := by
  have := all6_at per6 h
  simp only [Bool.and_eq_true, beq_iff_eq] at this
  exact stB_S (bakF_P h.p) (bakF_z a b g) (by rw [← bl_back0]; exact this.1.2)
theorem back_day {a b : Nat} {g : Nat → Nat} (h : IsS a b g) : bakF a b (dayF a b g) = g := by
  have := all6_at per6 h
  simp only [Bool.and_eq_true, beq_iff_eq] at this
  refine fun_of (bakF_z a b _) h.zr ?_
  rw [← bl_back0, ← dl_day0]; exact this.1.1.2
theorem day_back {a b : Nat} {g : Nat → Nat} (h : IsS a b g) : dayF a b (bakF a b g) = g := by
  have := all6_at per6 h
  simp only [Bool.and_eq_true, beq_iff_eq] at this
  refine fun_of (dayF_z a b _) h.zr ?_
  rw [← dl_day0, ← bl_back0]; exact this.2
theorem dayI_S {a b : Nat} {g : Nat → Nat} (h : IsS a b g) : ∀ k, IsS a b (dayI a b g k)
  | 0 => h
  | k + 1 => dayF_S (dayI_S h k)
theorem dayI_add (a b : Nat) (g : Nat → Nat) (k : Nat) : ∀ l, dayI a b g (k + l) = dayI a b (dayI a b g k) l
  | 0 => rfl
  | l + 1 => by show dayF a b (dayI a b g (k + l)) = _; rw [dayI_add a b g k l]; rfl
theorem dayI_one (a b : Nat) (g : Nat → Nat) (k : Nat) : dayI a b g (k + 1) = dayI a b (dayF a b g) k := by
  rw [Nat.add_comm, dayI_add]; rfl
theorem itl_day (a b : Nat) : ∀ k (g : Nat → Nat), itl b k (stR g 0 a) = stR (dayI a b g k) 0 a
  | 0, _ => rfl
  | k + 1, g => by rw [itl, dl_day0, itl_day a b k, dayI_one]
theorem period {a b : Nat} {g : Nat → Nat} (h : IsS a b g) : dayI a b g (a + b) = g := by
  have := all6_at per6 h
  simp only [Bool.and_eq_true, beq_iff_eq] at this
  exact fun_of (dayI_S h _).zr h.zr (by rw [← itl_day]; exact this.1.1.1.1)
/-- T is the number of states in the round. -/
structure IsT (a b : Nat) (g : Nat → Nat) (T : Nat) : Prop where
  t1 : 1 ≤ T
  tl : T ≤ a + b
  eq : dayI a b g T = g
  ne : ∀ k, 0 < k → k < T → dayI a b g k ≠ g
theorem least_ex {P : Nat → Prop} : ∀ n, P (n + 1) → ∃ k, 1 ≤ k ∧ k ≤ n + 1 ∧ P k ∧ ∀ j, 0 < j → j < k → ¬ P j := by
  intro n
  induction n using Nat.strongRecOn with
  | _ n ih =>
    intro hp
    by_cases h : ∃ m, m < n ∧ P (m + 1)
    · obtain ⟨m, hm, hP⟩ := h
      obtain ⟨k, h1, h2, h3, h4⟩ := ih m hm hP
      exact ⟨k, h1, by omega, h3, h4⟩
    · exact ⟨n + 1, by omega, Nat.le_refl _, hp, fun j h1 h2 hj => h ⟨j - 1, by omega, by rwa [show j - 1 + 1 = j by omega]⟩⟩
theorem isT_ex {a b : Nat} {g : Nat → Nat} (h : IsS a b g) : ∃ T, IsT a b g T := by
  have h1 := h.p.a1
  obtain ⟨n, hn⟩ : ∃ n, a + b = n + 1 := ⟨a + b - 1, by omega⟩
  obtain ⟨k, k1, k2, k3, k4⟩ := least_ex (P := fun k => dayI a b g k = g) n (by show dayI a b g (n + 1) = g; rw [← hn]; exact period h)
  exact ⟨k, k1, by omega, k3, k4⟩
theorem IsT.mul {a b T : Nat} {g : Nat → Nat} (h : IsT a b g T) : ∀ q, dayI a b g (T * q) = g
  | 0 => rfl
  | q + 1 => by rw [Nat.mul_succ, dayI_add, h.mul q]; exact h.eq
theorem IsT.mod {a b T : Nat} {g : Nat → Nat} (h : IsT a b g T) (k : Nat) : dayI a b g k = dayI a b g (k % T) := by
  conv => lhs; rw [← Nat.div_add_mod k T, dayI_add, h.mul]
theorem IsT.dvd {a b T : Nat} {g : Nat → Nat} (h : IsT a b g T) (k : Nat) (hk : dayI a b g k = g) : k % T = 0 := by
  have h1 := h.t1
  have h2 := Nat.mod_lt k (show T > 0 by omega)
  rcases Nat.eq_zero_or_pos (k % T) with e | e
  · exact e
  · exact absurd (by rw [← h.mod]; exact hk) (h.ne _ e h2)
theorem IsT.per {a b T : Nat} {g : Nat → Nat} (h : IsT a b g T) (hs : IsS a b g) : (a + b) % T = 0 := h.dvd _ (period hs)
end Go.Proofs.Ytniknldeafmgaaa
