/- Layer 4, by the specification: the danger and the careful spot; AmbushDangers. -/
import Derived.Test.YtbdhceolchhnjaaDoorSb
import Derived.Test.YtbdhceolchhnjaaDoorBa
import Derived.Test.YtbdhceolchhnjaaDoorQa
namespace Go.Proofs.YtbdhceolchhnjaaDoor
open Go Go.RowKit

theorem shr_bt (f j : Nat) : ((f : Int) / 2 ^ j).tmod 2 = ((bt f j : Nat) : Int) := by
  rw [pw_int, show ((f : Int) / ((pw j : Nat) : Int)) = ((f / pw j : Nat) : Int) from (Int.natCast_ediv _ _).symm, Int.tmod_eq_emod_of_nonneg (Int.natCast_nonneg _)]
  exact (Int.natCast_emod _ _).symm
theorem frL_next (k u v : Nat) : frL (k + 1) u v = if frB u v k = true then frL k u v ++ [k] else frL k u v := by
  unfold frL
  rw [List.range_succ, List.filter_append]
  cases h : frB u v k <;> simp [h]
theorem bt_orF {u v k : Nat} : bt (u ||| v) k = if frB u v k = true then 0 else 1 := by
  rw [bt_test, Nat.testBit_or]
  unfold frB
  cases u.testBit k <;> cases v.testBit k <;> rfl
theorem frL_test {u v k : Nat} (h : frB u v k = true) : u.testBit k = false ∧ v.testBit k = false := by
  unfold frB at h
  cases h1 : u.testBit k <;> cases h2 : v.testBit k <;> simp_all
/-- The best spot of those that were looked at, or -1. -/
def bsI (f : Nat → Nat) (l : List Nat) : Int := if l = [] then -1 else (mnL f l : Nat)
/-- Its danger. -/
def lsI (f : Nat → Nat) (l : List Nat) : Nat := if l = [] then 0 else f (mnL f l)
theorem bs_snoc (f : Nat → Nat) (l : List Nat) (k : Nat) : bsI f (l ++ [k]) = (if bsI f l < 0 ∨ f k < lsI f l then (k : Int) else bsI f l) ∧ lsI f (l ++ [k]) = (if bsI f l < 0 ∨ f k < lsI f l then f k else lsI f l) := by
  have e1 : bsI f (l ++ [k]) = (mnL f (l ++ [k]) : Nat) := if_neg (by simp)
  have e2 : lsI f (l ++ [k]) = f (mnL f (l ++ [k])) := if_neg (by simp)
  rw [e1, e2]
  by_cases h : l = []
  · subst h
    exact ⟨rfl, rfl⟩
  · have e3 : bsI f l = (mnL f l : Nat) := if_neg h
    have e4 : lsI f l = f (mnL f l) := if_neg h
    rw [e3, e4, mnL_snoc f h]
    have h0 : ¬ ((mnL f l : Nat) : Int) < 0 := by omega
    by_cases g : f k < f (mnL f l)
    · rw [if_pos g, if_pos (Or.inr g), if_pos (Or.inr g)]; exact ⟨rfl, rfl⟩
    · rw [if_neg g, if_neg (fun hh => hh.elim h0 g), if_neg (fun hh => hh.elim h0 g)]; exact ⟨rfl, rfl⟩
theorem caE_lt (x : Int) (R : List Int) (s : ByteArray) : caE x R s < 10 := by
  have := pE_lt x R s
  unfold caE
  split
  · split <;> omega
  · omega
end Go.Proofs.YtbdhceolchhnjaaDoor
