/- Layer 5: rows of one-cell elements with a key, and what insertion sort does to them. -/
import Derived.Test.YtfdaljekehkkaaaGreatDoorBa
namespace Go.Proofs.YtfdaljekehkkaaaGreatDoor
open Go Go.RowKit

/-- An element: its key, and its value. -/
abbrev El := Nat × Value
def eth (L : List El) (i : Nat) : El := L.getD i (0, .nilIface)
theorem eth_get {L : List El} {i : Nat} (h : i < L.length) : eth L i = L[i] := by simp [eth, h]
/-- In order. -/
def SortedE (L : List El) : Prop := ∀ i j, i < j → j < L.length → (eth L i).1 ≤ (eth L j).1
theorem sortedE_pair {L : List El} : SortedE L ↔ L.Pairwise fun a b => a.1 ≤ b.1 := by
  rw [List.pairwise_iff_getElem]
  constructor
  · intro h i j hi hj hij
    have := h i j hij hj
    rwa [eth_get hi, eth_get hj] at this
  · intro h i j hij hj
    rw [eth_get (by omega), eth_get hj]
    exact h i j (by omega) hj hij
theorem eth_set {L : List El} {i k : Nat} {v : El} (hi : i < L.length) : eth (L.set i v) k = if k = i then v else eth L k := by
  unfold eth
  rw [List.getD_eq_getElem?_getD, List.getD_eq_getElem?_getD, List.getElem?_set]
  by_cases h : i = k
  · subst h; simp [hi]
  · rw [if_neg h, if_neg (fun e => h e.symm)]
/-- Two neighbours change places. -/
def swapE (L : List El) (j : Nat) : List El := (L.set j (eth L (j - 1))).set (j - 1) (eth L j)
theorem swapE_length (L : List El) (j : Nat) : (swapE L j).length = L.length := by simp [swapE]
theorem swapE_perm {L : List El} {j : Nat} (hj : j < L.length) : (swapE L j).Perm L := by
  unfold swapE
  rw [eth_get hj, eth_get (by omega)]
  exact List.set_set_perm hj (by omega)
theorem swapE_get {L : List El} {j k : Nat} (hj : j < L.length) (h0 : 0 < j) : eth (swapE L j) k = if k = j - 1 then eth L j else if k = j then eth L (j - 1) else eth L k := by
  unfold swapE
  rw [eth_set (by simp; omega), eth_set hj]
/-- In order up to i, but for what stands at j. -/
def AlmostE (L : List El) (i j : Nat) : Prop := ∀ x y, x < y → y ≤ i → y ≠ j → (eth L x).1 ≤ (eth L y).1
theorem almostE_swap {L : List El} {i j : Nat} (h : AlmostE L i j) (hi : i < L.length) (hj : j ≤ i) (h0 : 0 < j) (hlt : (eth L j).1 < (eth L (j - 1)).1) : AlmostE (swapE L j) i (j - 1) := by
  intro x y hxy hy hne
  rw [swapE_get (by omega) h0, swapE_get (by omega) h0, if_neg hne]
  by_cases e1 : y = j
  · subst e1
    rw [if_pos rfl]
    by_cases e2 : x = y - 1
    · rw [if_pos e2]; omega
    · rw [if_neg e2, if_neg (by omega)]
      exact h x (y - 1) (by omega) (by omega) (by omega)
  · rw [if_neg e1]
    by_cases e2 : x = j - 1
    · rw [if_pos e2]; exact h j y (by omega) hy e1
    · rw [if_neg e2]
      by_cases e3 : x = j
      · rw [if_pos e3]; exact h (j - 1) y (by omega) hy e1
      · rw [if_neg e3]; exact h x y hxy hy e1
theorem almostE_done {L : List El} {i j : Nat} (h : AlmostE L i j) (hs : j = 0 ∨ ¬ (eth L j).1 < (eth L (j - 1)).1) : ∀ x y, x < y → y ≤ i → (eth L x).1 ≤ (eth L y).1 := by
  intro x y hxy hy
  by_cases e : y = j
  · subst e
    rcases hs with hs | hs
    · omega
    · by_cases e2 : x = y - 1
      · rw [e2]; omega
      · have := h x (y - 1) (by omega) (by omega) (by omega)
        omega
  · exact h x y hxy hy e
theorem almostE_start {L : List El} {i : Nat} (h : ∀ x y, x < y → y < i → (eth L x).1 ≤ (eth L y).1) : AlmostE L i i := fun x y hxy hy hne => h x y hxy (by omega)
/-- The cells. -/
def cE (L : List El) : List Value := L.map (·.2)
theorem cE_length (L : List El) : (cE L).length = L.length := by simp [cE]
theorem cE_at {L : List El} {i : Nat} (h : i < L.length) : (cE L)[i]? = some (eth L i).2 := by simp [cE, eth, h]
theorem cE_swap {L : List El} {j : Nat} (hj : j < L.length) : ((cE L).set j (eth L (j - 1)).2).set (j - 1) (eth L j).2 = cE (swapE L j) := by
  simp [cE, swapE, List.map_set]
theorem swap_worldE {e : TypeId} {w : World} {base g n cap j : Nat} {M : List El} (hown : w.ownsRow base e 1 (.slice (some ⟨g, 0, none⟩) n cap) n (cE M)) (hl : M.length = n) (hj : j < n) (hb : base ≤ g) {w0 : World} (hB : Below base w0 w) :
    (((w.setCell ⟨g, j, none⟩ (eth M (j - 1)).2).setCell ⟨g, j - 1, none⟩ (eth M j).2).drew).ownsRow base e 1 (.slice (some ⟨g, 0, none⟩) n cap) n (cE (swapE M j)) ∧
    Below base w0 (((w.setCell ⟨g, j, none⟩ (eth M (j - 1)).2).setCell ⟨g, j - 1, none⟩ (eth M j).2).drew) := by
  have s1 := (hown.stored j (eth M (j - 1)).2).1
  have s2 := (s1.stored (j - 1) (eth M j).2).1
  rw [cE_swap (by omega)] at s2
  exact ⟨owns_next s2 (Below.refl _ _).drew, ((hB.setCell (p := ⟨g, _, none⟩) hb _).setCell (p := ⟨g, _, none⟩) hb _).drew⟩
/-- A row was put in order, in place. -/
def SortsE (e : TypeId) (base n : Nat) (v : Value) (L : List El) (w : World) (en : Ending) (w' : World) : Prop :=
  en = .returned (.tuple #[]) ∧ ∃ M : List El, M.Perm L ∧ SortedE M ∧ w'.ownsRow base e 1 v n (cE M) ∧ Below base w w'
end Go.Proofs.YtfdaljekehkkaaaGreatDoor
