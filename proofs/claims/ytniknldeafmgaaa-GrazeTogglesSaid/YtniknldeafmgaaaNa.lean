/- Layer 8, mathematics: states of a pasture as functions of the row. -/
import Derived.Test.YtniknldeafmgaaaWa
namespace Go.Proofs.Ytniknldeafmgaaa
set_option linter.unusedSimpArgs false
set_option linter.unusedVariables false

/-- How many plots of row i may be grazed. -/
def mo (b : Nat) (g : Nat → Nat) (i : Nat) : Nat := if i = 0 then b else g (i - 1)
/-- How many plots of row i must be grazed. -/
def lea (a : Nat) (g : Nat → Nat) (i : Nat) : Nat := if i + 1 = a then 0 else g (i + 1)
/-- The plot i, j is next. -/
def nxt (b : Nat) (g : Nat → Nat) (i j : Nat) : Prop := j = g i ∧ j < mo b g i
instance (b : Nat) (g : Nat → Nat) (i j : Nat) : Decidable (nxt b g i j) := by unfold nxt; infer_instance
/-- The plot i, j is an end. -/
def enf (a : Nat) (g : Nat → Nat) (i j : Nat) : Prop := j + 1 = g i ∧ lea a g i ≤ j
instance (a : Nat) (g : Nat → Nat) (i j : Nat) : Decidable (enf a g i j) := by unfold enf; infer_instance
/-- Row i gets the number x. -/
def upf (g : Nat → Nat) (i x : Nat) : Nat → Nat := fun k => if k = i then x else g k
theorem upf_at (g : Nat → Nat) (i x : Nat) : upf g i x i = x := if_pos rfl
theorem upf_ne (g : Nat → Nat) {i k : Nat} (x : Nat) (h : k ≠ i) : upf g i x k = g k := if_neg h
/-- The plot i, j is turned. -/
def tnf (a b : Nat) (g : Nat → Nat) (i j : Nat) : Nat → Nat := if nxt b g i j then upf g i (g i + 1) else if enf a g i j then upf g i (g i - 1) else g
/-- How far the rows from the (a - n)-th on ask for, on the next day. -/
def dr (a b : Nat) (g : Nat → Nat) : Nat → Nat
  | 0 => 0
  | n + 1 => if g (a - 1 - n) < mo b g (a - 1 - n) then g (a - 1 - n) + 1 else dr a b g n
/-- The next day. -/
def dayF (a b : Nat) (g : Nat → Nat) : Nat → Nat := fun i => if i < a then dr a b g (a - i) else 0
/-- How far the rows up to the n-th leave, on the day before. -/
def bk (a b : Nat) (g : Nat → Nat) : Nat → Nat
  | 0 => b
  | n + 1 => if lea a g n + 1 ≤ g n then g n - 1 else bk a b g n
/-- The day before. -/
def bakF (a b : Nat) (g : Nat → Nat) : Nat → Nat := fun i => if i < a then bk a b g (i + 1) else 0
/-- The sizes of a pasture, and bounds of its numbers. -/
structure IsP (a b : Nat) (g : Nat → Nat) : Prop where
  a1 : 1 ≤ a
  a6 : a ≤ 6
  b1 : 1 ≤ b
  b6 : b ≤ 6
  gb : ∀ i, g i ≤ b
/-- A state. -/
structure IsS (a b : Nat) (g : Nat → Nat) : Prop where
  p : IsP a b g
  dn : ∀ i, g (i + 1) ≤ g i
  zr : ∀ i, a ≤ i → g i = 0
theorem IsS.mo_le {a b : Nat} {g : Nat → Nat} (h : IsS a b g) (i : Nat) : g i ≤ mo b g i := by
  unfold mo
  split
  · exact h.p.gb i
  · have := h.dn (i - 1); rwa [show i - 1 + 1 = i by omega] at this
theorem IsS.lea_le {a b : Nat} {g : Nat → Nat} (h : IsS a b g) (i : Nat) : lea a g i ≤ g i := by
  unfold lea
  split
  · omega
  · exact h.dn i
theorem mo_le {a b : Nat} {g : Nat → Nat} (h : IsP a b g) (i : Nat) : mo b g i ≤ b := by
  unfold mo
  split
  · omega
  · exact h.gb _
theorem lea_le {a b : Nat} {g : Nat → Nat} (h : IsP a b g) (i : Nat) : lea a g i ≤ b := by
  unfold lea
  split
  · omega
  · exact h.gb _
theorem dr_le {a b : Nat} {g : Nat → Nat} (h : IsP a b g) : ∀ n, dr a b g n ≤ b
  | 0 => by unfold dr; omega
  | n + 1 => by
    unfold dr
    split
    · have := mo_le h (a - 1 - n); omega
    · exact dr_le h n
theorem bk_le {a b : Nat} {g : Nat → Nat} (h : IsP a b g) : ∀ n, bk a b g n ≤ b
  | 0 => by unfold bk; omega
  | n + 1 => by
    unfold bk
    split
    · have := h.gb n; omega
    · exact bk_le h n
theorem dayF_P {a b : Nat} {g : Nat → Nat} (h : IsP a b g) : IsP a b (dayF a b g) := ⟨h.a1, h.a6, h.b1, h.b6, fun i => by
  unfold dayF
  split
  · exact dr_le h _
  · omega⟩
theorem bakF_P {a b : Nat} {g : Nat → Nat} (h : IsP a b g) : IsP a b (bakF a b g) := ⟨h.a1, h.a6, h.b1, h.b6, fun i => by
  unfold bakF
  split
  · exact bk_le h _
  · omega⟩
theorem tnf_P {a b : Nat} {g : Nat → Nat} (h : IsP a b g) (i j : Nat) : IsP a b (tnf a b g i j) := ⟨h.a1, h.a6, h.b1, h.b6, fun k => by
  unfold tnf
  split
  · rename_i hn
    have := mo_le h i
    unfold nxt at hn
    by_cases e : k = i
    · subst e; rw [upf_at]; omega
    · rw [upf_ne _ _ e]; exact h.gb k
  · split
    · by_cases e : k = i
      · subst e; rw [upf_at]; have := h.gb k; omega
      · rw [upf_ne _ _ e]; exact h.gb k
    · exact h.gb k⟩
theorem tnf_S {a b : Nat} {g : Nat → Nat} (h : IsS a b g) {i j : Nat} (hi : i < a) : IsS a b (tnf a b g i j) := by
  refine ⟨tnf_P h.p i j, fun k => ?_, fun k hk => ?_⟩
  · unfold tnf
    split
    · rename_i hn
      unfold nxt mo at hn
      by_cases e : k = i
      · subst e
        rw [upf_at, upf_ne _ _ (by omega)]
        have := h.dn k; omega
      · rw [upf_ne _ _ e]
        by_cases e2 : k + 1 = i
        · subst e2
          rw [upf_at]
          rw [if_neg (by omega), show k + 1 - 1 = k by omega] at hn
          omega
        · rw [upf_ne _ _ e2]; exact h.dn k
    · split
      · rename_i hn he
        unfold enf lea at he
        by_cases e : k = i
        · subst e
          rw [upf_at, upf_ne _ _ (by omega)]
          split at he
          · have := h.zr (k + 1) (by omega); omega
          · omega
        · rw [upf_ne _ _ e]
          by_cases e2 : k + 1 = i
          · subst e2
            rw [upf_at]
            have := h.dn k; omega
          · rw [upf_ne _ _ e2]; exact h.dn k
      · exact h.dn k
  · unfold tnf
    split
    · rw [upf_ne _ _ (by omega)]; exact h.zr k hk
    · split
      · rw [upf_ne _ _ (by omega)]; exact h.zr k hk
      · exact h.zr k hk
/-- The numbers of a state. -/
def stL (a : Nat) (g : Nat → Nat) : List Int := (List.range a).map fun i => ((g i : Nat) : Int)
theorem stL_len (a : Nat) (g : Nat → Nat) : (stL a g).length = a := by simp [stL]
theorem stL_nth {a i : Nat} (g : Nat → Nat) (h : i < a) : nth (stL a g) i = (g i : Int) := by simp [stL, nth, h]
end Go.Proofs.Ytniknldeafmgaaa
