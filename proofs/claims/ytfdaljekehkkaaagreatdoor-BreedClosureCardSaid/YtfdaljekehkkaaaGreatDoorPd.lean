/- Layer 5, by the specification: ascending, least, size. -/
import Derived.Test.YtfdaljekehkkaaaGreatDoorPc
namespace Go.Proofs.YtfdaljekehkkaaaGreatDoor
open Go Go.RowKit

def AscR (xs : List Nat) (w : World) (e : Ending) (w' : World) : Prop := ∃ v, e = .returned v ∧ ∃ M : List El, M.Perm (elS xs) ∧ SortedE M ∧ w'.ownsRow w.heap.size 3 1 v xs.length (cE M) ∧ Below w.heap.size w w'
theorem elS_snoc {xs : List Nat} {i : Nat} (h : i < xs.length) : elS (xs.take (i + 1)) = elS (xs.take i) ++ [(xs.getD i 0, .int .i64 ((xs.getD i 0 : Nat) : Int))] := by
  rw [take_snocN xs i h]
  simp [elS]
theorem cE_snoc (M : List El) (e : El) : cE (M ++ [e]) = cE M ++ [e.2] := by simp [cE]
theorem sorted_snoc {M : List El} {e : El} {n : Nat} (hl : M.length = n) (h : SortedE M) : AlmostE (M ++ [e]) n n := by
  intro x y hxy hy hne
  have hyn : y < M.length := by omega
  have e1 : ∀ z, z < M.length → eth (M ++ [e]) z = eth M z := fun z hz => by
    unfold eth
    rw [List.getD_eq_getElem?_getD, List.getD_eq_getElem?_getD, List.getElem?_append_left hz]
  rw [e1 x (by omega), e1 y hyn]
  exact h x y hxy hyn
theorem swap_worldF {e : TypeId} {w : World} {base g n cap j : Nat} {M : List El} (hown : w.ownsRow base e 1 (.slice (some ⟨g, 0, none⟩) n cap) n (cE M)) (hl : M.length = n) (hj : j < n) (hb : base ≤ g) {w0 : World} (hB : Below base w0 w) :
    ((w.setCell ⟨g, j, none⟩ (eth M (j - 1)).2).setCell ⟨g, j - 1, none⟩ (eth M j).2).ownsRow base e 1 (.slice (some ⟨g, 0, none⟩) n cap) n (cE (swapE M j)) ∧
    Below base w0 ((w.setCell ⟨g, j, none⟩ (eth M (j - 1)).2).setCell ⟨g, j - 1, none⟩ (eth M j).2) := by
  have s1 := (hown.stored j (eth M (j - 1)).2).1
  have s2 := (s1.stored (j - 1) (eth M j).2).1
  rw [cE_swap (by omega)] at s2
  exact ⟨s2, (hB.setCell (p := ⟨g, _, none⟩) hb _).setCell (p := ⟨g, _, none⟩) hb _⟩
end Go.Proofs.YtfdaljekehkkaaaGreatDoor
