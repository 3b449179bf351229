/- What was met, as rows of a slice of slices; and that all of it are brands. -/
import Derived.Test.YtkbdclladfjmcaaHb
import Derived.Test.YtkbdclladfjmcaaHc
import Derived.Test.YtkbdclladfjmcaaGa
namespace Go.Proofs.Ytkbdclladfjmcaa
open Go Go.RowKit

/-- Each value of V is an own row of pairs that holds what mets says. -/
def Rec (W : World) (q : Nat) (V : List Value) (mets : List (List (Int × Int))) : Prop :=
  V.length = mets.length ∧ ∀ j, j < mets.length → ∃ a c, V[j]? = some (.slice a q c) ∧ q ≤ c ∧ (mets.getD j []).length = q ∧ W.ownsRow 0 29 2 (.slice a q c) q (cP (mets.getD j []))
theorem Rec.next {W W' : World} {q : Nat} {V : List Value} {mets : List (List (Int × Int))} (h : Rec W q V mets) (B : Below W.heap.size W W') : Rec W' q V mets :=
  ⟨h.1, fun j hj => by
    obtain ⟨a, c, h1, h2, h3, h4⟩ := h.2 j hj
    exact ⟨a, c, h1, h2, h3, own_below h4 B⟩⟩
/-- The rows stay when their table grows. -/
theorem Rec.grown {W W' : World} {q k base : Nat} {V ys : List Value} {v : Value} {mets : List (List (Int × Int))} (h : Rec W q V mets) (ho : W.ownsRow base 27 1 v k ys) (hg : W.grownBy W' v.ownBlock) : Rec W' q V mets :=
  ⟨h.1, fun j hj => by
    obtain ⟨a, c, h1, h2, h3, h4⟩ := h.2 j hj
    refine ⟨a, c, h1, h2, h3, h4.kept hg ?_⟩
    rcases h4.2 with ⟨e, _⟩ | ⟨g, cap, cur, e, _⟩
    · left
      rw [e]
      rfl
    · right
      rw [e] at h4
      have := own_apart h4 ho (by decide)
      rw [e]
      exact fun hh => this hh.symm⟩
theorem Rec.snoc {W : World} {q c : Nat} {a : Option Addr} {V : List Value} {mets : List (List (Int × Int))} {x : List (Int × Int)} (h : Rec W q V mets) (hx : x.length = q) (hc : q ≤ c) (ho : W.ownsRow 0 29 2 (.slice a q c) q (cP x)) :
    Rec W q (V ++ [.slice a q c]) (mets ++ [x]) := by
  refine ⟨by simp [h.1], fun j hj => ?_⟩
  by_cases e : j < mets.length
  · obtain ⟨a', c', h1, h2, h3, h4⟩ := h.2 j e
    have e1 : (mets ++ [x]).getD j [] = mets.getD j [] := by
      rw [List.getD_eq_getElem?_getD, List.getD_eq_getElem?_getD, List.getElem?_append_left e]
    rw [e1]
    exact ⟨a', c', by rw [List.getElem?_append_left (by rw [h.1]; exact e)]; exact h1, h2, h3, h4⟩
  · obtain rfl : j = mets.length := by simp at hj; omega
    have e1 : (mets ++ [x]).getD mets.length [] = x := by simp
    rw [e1]
    exact ⟨a, c, by rw [← h.1]; simp, hc, hx, ho⟩
theorem fan_brand {n : Nat} (h3 : 3 ≤ n) (h7 : n ≤ 7) : BrandP n (fanL n) := by
  have hn : n = 3 ∨ n = 4 ∨ n = 5 ∨ n = 6 ∨ n = 7 := by omega
  rcases hn with rfl | rfl | rfl | rfl | rfl <;> decide
theorem steps_len {n t : Nat} {met : List (List (Int × Int))} : ∀ i, met.length ≤ (stepsM n t met i).length := by
  intro i
  induction i with
  | zero => exact Nat.le_refl _
  | succ i ih =>
    rw [stepsM, stepM]
    split
    · exact ih
    · simp; omega
theorem steps_old {n t : Nat} {met : List (List (Int × Int))} {j : Nat} (hj : j < met.length) : ∀ i, (stepsM n t met i).getD j [] = met.getD j [] := by
  intro i
  induction i with
  | zero => rfl
  | succ i ih =>
    have hl := steps_len (n := n) (t := t) (met := met) i
    rw [stepsM, stepM]
    split
    · exact ih
    · rw [List.getD_eq_getElem?_getD, List.getElem?_append_left (by omega), ← List.getD_eq_getElem?_getD, ih]
theorem steps_brand {n t : Nat} {met : List (List (Int × Int))} (hm : ∀ L ∈ met, BrandP n L) (ht : t < met.length) : ∀ i, i ≤ n - 3 → ∀ L ∈ stepsM n t met i, BrandP n L := by
  intro i
  induction i with
  | zero => exact fun _ => hm
  | succ i ih =>
    intro hi L hL
    rw [stepsM, stepM] at hL
    split at hL
    · exact ih (by omega) L hL
    · rw [List.mem_append] at hL
      rcases hL with hL | hL
      · exact ih (by omega) L hL
      · rw [steps_old ht] at hL
        have hB : BrandP n (met.getD t []) := by
          rw [List.getD_eq_getElem?_getD, List.getElem?_eq_getElem ht]
          exact hm _ (List.getElem_mem ht)
        have hl := hB.2.2.1
        simp only [List.mem_singleton] at hL
        rw [hL]
        exact (flip_facts hB (i := i) (by omega)).1
theorem met_brand {n c : Nat} (h3 : 3 ≤ n) (h7 : n ≤ 7) (hc : ∀ s, s < c → s < (metM n s).length) : ∀ t, t ≤ c → ∀ L ∈ metM n t, BrandP n L := by
  intro t
  induction t with
  | zero =>
    intro _ L hL
    rw [metM, List.mem_singleton] at hL
    rw [hL]
    exact fan_brand h3 h7
  | succ t ih =>
    intro ht
    exact steps_brand (ih (by omega)) (hc t (by omega)) (n - 3) (Nat.le_refl _)
end Go.Proofs.Ytkbdclladfjmcaa
