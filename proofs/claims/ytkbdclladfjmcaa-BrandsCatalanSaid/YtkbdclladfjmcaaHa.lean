/- What flips reach from the fan, up to seven corners: the model, and its number, by computing. -/
import Derived.Test.YtkbdclladfjmcaaFg
namespace Go.Proofs.Ytkbdclladfjmcaa
open Go Go.RowKit

/-- The fan of the corner 0. -/
def fanL (n : Nat) : List (Int × Int) := (List.range (n - 3)).map fun (k : Nat) => ((0 : Int), (k : Int) + 2)
/-- One flip of the brand at t: what is new is put behind. -/
def stepM (n t : Nat) (met : List (List (Int × Int))) (i : Nat) : List (List (Int × Int)) :=
  if flipL n (met.getD t []) i ∈ met then met else met ++ [flipL n (met.getD t []) i]
/-- The first i flips of the brand at t. -/
def stepsM (n t : Nat) (met : List (List (Int × Int))) : Nat → List (List (Int × Int))
  | 0 => met
  | i + 1 => stepM n t (stepsM n t met i) i
/-- What was met, t brands done. -/
def metM (n : Nat) : Nat → List (List (Int × Int))
  | 0 => [fanL n]
  | t + 1 => stepsM n t (metM n t) (n - 3)
/-- From t on, f more brands. -/
def goesM (n c t : Nat) (met : List (List (Int × Int))) : Nat → Bool
  | 0 => met.length == c && t == c
  | f + 1 => decide (t < met.length) && decide (met.length ≤ c) && goesM n c (t + 1) (stepsM n t met (n - 3)) f
theorem goes3 : goesM 3 1 0 [fanL 3] 1 = true := by decide +kernel
theorem goes4 : goesM 4 2 0 [fanL 4] 2 = true := by decide +kernel
theorem goes5 : goesM 5 5 0 [fanL 5] 5 = true := by decide +kernel
theorem goes6 : goesM 6 14 0 [fanL 6] 14 = true := by decide +kernel
theorem goes7 : goesM 7 42 0 [fanL 7] 42 = true := by decide +kernel
theorem goes_at {n c : Nat} : ∀ (f t : Nat) , goesM n c t (metM n t) f = true → t + f = c →
    (∀ s, t ≤ s → s < c → s < (metM n s).length ∧ (metM n s).length ≤ c) ∧ (metM n c).length = c := by
  intro f
  induction f with
  | zero =>
    intro t h e
    simp only [goesM, Bool.and_eq_true, beq_iff_eq] at h
    obtain ⟨h1, rfl⟩ := h
    exact ⟨fun s h2 h3 => by omega, h1⟩
  | succ f ih =>
    intro t h e
    simp only [goesM, Bool.and_eq_true, decide_eq_true_eq] at h
    obtain ⟨⟨h1, h2⟩, h3⟩ := h
    obtain ⟨i1, i2⟩ := ih (t + 1) h3 (by omega)
    refine ⟨fun s h4 h5 => ?_, i2⟩
    by_cases e2 : s = t
    · subst e2; exact ⟨h1, h2⟩
    · exact i1 s (by omega) h5
/-- The Catalan number of n - 2, for n from 3 to 7. -/
def catS (n : Nat) : Nat := if n = 3 then 1 else if n = 4 then 2 else if n = 5 then 5 else if n = 6 then 14 else 42
theorem met_all {n : Nat} (h3 : 3 ≤ n) (h7 : n ≤ 7) : (∀ s, s < catS n → s < (metM n s).length ∧ (metM n s).length ≤ catS n) ∧ (metM n (catS n)).length = catS n := by
  have key : ∀ c, catS n = c → goesM n c 0 [fanL n] c = true → (∀ s, s < catS n → s < (metM n s).length ∧ (metM n s).length ≤ catS n) ∧ (metM n (catS n)).length = catS n := by
    intro c hc h
    rw [hc]
    obtain ⟨i1, i2⟩ := goes_at c 0 h (by omega)
    exact ⟨fun s hs => i1 s (by omega) hs, i2⟩
  have hn : n = 3 ∨ n = 4 ∨ n = 5 ∨ n = 6 ∨ n = 7 := by omega
  rcases hn with rfl | rfl | rfl | rfl | rfl
  · exact key 1 rfl goes3
  · exact key 2 rfl goes4
  · exact key 5 rfl goes5
  · exact key 14 rfl goes6
  · exact key 42 rfl goes7
end Go.Proofs.Ytkbdclladfjmcaa
