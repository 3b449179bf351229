/- Layer 4, by the program: the careful spot. -/
import Derived.Test.YtbdhceolchhnjaaDoorAs
namespace Go.Proofs.YtbdhceolchhnjaaDoor
open Go Go.RowKit

/-- The first of the least. -/
def mnL (f : Nat → Nat) (l : List Nat) : Nat := l.tail.foldl (fun b x => if f x < f b then x else b) (l.headD 0)
theorem mnL_one (f : Nat → Nat) (x : Nat) : mnL f [x] = x := rfl
theorem mnL_snoc (f : Nat → Nat) {l : List Nat} (h : l ≠ []) (x : Nat) : mnL f (l ++ [x]) = if f x < f (mnL f l) then x else mnL f l := by
  cases l with
  | nil => exact absurd rfl h
  | cons a l =>
    unfold mnL
    simp only [List.cons_append, List.tail_cons, List.headD_cons, List.foldl_append, List.foldl_cons, List.foldl_nil]
    rfl
theorem mnL_spec (f : Nat → Nat) (l : List Nat) (h : l ≠ []) : mnL f l ∈ l ∧ ∀ j ∈ l, f (mnL f l) ≤ f j := by
  suffices H : ∀ r : List Nat, r ≠ [] → mnL f r.reverse ∈ r ∧ ∀ j ∈ r, f (mnL f r.reverse) ≤ f j by
    have := H l.reverse (by simpa using h)
    rw [List.reverse_reverse] at this
    exact ⟨by simpa using this.1, fun j hj => this.2 j (by simpa using hj)⟩
  intro r
  induction r with
  | nil => intro h; exact absurd rfl h
  | cons a r ih =>
    intro _
    rw [List.reverse_cons]
    by_cases e : r = []
    · subst e
      refine ⟨by simp [mnL], fun j hj => ?_⟩
      simp at hj; subst hj; exact Nat.le_refl _
    · obtain ⟨h1, h2⟩ := ih e
      rw [mnL_snoc f (by simpa using e)]
      split
      · refine ⟨List.mem_cons_self, fun j hj => ?_⟩
        rcases List.mem_cons.1 hj with rfl | hj
        · exact Nat.le_refl _
        · have := h2 j hj; omega
      · refine ⟨List.mem_cons_of_mem _ h1, fun j hj => ?_⟩
        rcases List.mem_cons.1 hj with rfl | hj
        · omega
        · exact h2 j hj
theorem take_snocN (l : List Nat) (k : Nat) (h : k < l.length) : l.take (k + 1) = l.take k ++ [l.getD k 0] := by
  rw [List.take_succ_eq_append_getElem h]; simp [h]
/-- What the dogs take. -/
abbrev dgT (m : Nat) (R : List Int) (x y : Nat) (i : Nat) : Nat := dngL m R x (y ||| pw i)
end Go.Proofs.YtbdhceolchhnjaaDoor
