/- Layer 1: copies of lists, corners. -/
import Derived.Test.YtnjegnlfdbbleaaSa
import Derived.Lib.LazyBuf
namespace Go.Proofs.Ytnjegnlfdbbleaa
open Go Go.RowKit Go.Shelf

theorem cellsOf_get (p : Nat → Int × Int) (n b off : Nat) (w : World) (hc : ∀ i, i < n → w.cell? ⟨b, off + i * 2, none⟩ = some (.int .i64 (p i).1) ∧ w.cell? ⟨b, off + i * 2 + 1, none⟩ = some (.int .i64 (p i).2)) :
    ∀ j u, (cellsOf p n)[j]? = some u → w.cell? (Addr.add ⟨b, off, none⟩ j) = some u := by
  intro j u hj
  have hl := cellsOf_length p n
  have hjl : j < n * 2 := by have := (List.getElem?_eq_some_iff.1 hj).1; omega
  obtain ⟨h1, h2⟩ := cellsOf_at p n (j / 2) (by omega)
  obtain ⟨e1, e2⟩ := hc (j / 2) (by omega)
  have ha : Addr.add ⟨b, off, none⟩ j = ⟨b, off + j, none⟩ := by simp [Addr.add]
  rw [ha]
  by_cases hp : j % 2 = 0
  · rw [show j / 2 * 2 = j by omega, hj] at h1
    rw [show off + j = off + j / 2 * 2 by omega, e1, h1]
  · rw [show j / 2 * 2 + 1 = j by omega, hj] at h2
    rw [show off + j = off + j / 2 * 2 + 1 by omega, e2, h2]

set_option maxRecDepth 100000 in
set_option maxHeartbeats 1600000 in
theorem clone_any (b off n c : Nat) (p : Nat → Int × Int) (w : World) (h1 : 1 ≤ n) (h10 : n ≤ 10)
    (hc : ∀ i, i < n → w.cell? ⟨b, off + i * 2, none⟩ = some (.int .i64 (p i).1) ∧ w.cell? ⟨b, off + i * 2 + 1, none⟩ = some (.int .i64 (p i).2)) :
    Calls Try.prog 74 #[.slice (some ⟨b, off, none⟩) n c] w fun e w' => Below w.heap.size w w' ∧ ∃ g cap, e = .returned (.slice (some ⟨g, 0, none⟩) n cap) ∧
      w'.ownsRow w.heap.size 65 2 (.slice (some ⟨g, 0, none⟩) n cap) n (cellsOf p n) := by
  obtain ⟨i0, hi, hz0, hz1, hz2⟩ := info_parts infoSpot
  have G0 := Lib.hid hi
  have G1 := Lib.hid hz0
  have G2 := Lib.hid hz1
  have G3 := Lib.hid hz2
  clear hi hz0 hz1 hz2
  have hcc := Lib.hid (cellsOf_get p n b off w hc)
  have hc := Lib.hid hc
  have qT : ∀ (w : World) (a : Option Addr) (n c : Nat), (binOp .eql 54 (.slice a n c) (.slice none 0 0)).run Try.prog w = .ok (.bool a.isNone) w := fun w a n c => run_eql_slice_nil w _ 65 a n c Try.underlying54
  go_enter Try.func74, Try.ntmps74
  obtain ⟨m, rfl⟩ : ∃ m, n = m + 1 := ⟨n - 1, by omega⟩
  have hone : ∀ u ∈ cellsOf p (m + 1), u.oneCell' = true := by
    intro u hu
    simp only [cellsOf, List.mem_flatMap, List.mem_cons, List.not_mem_nil, or_false] at hu
    obtain ⟨i, _, h | h⟩ := hu <;> (subst h; rfl)
  have hone := Lib.hid hone
  go_wp2_with (at_builtin; refine wpList_append_own _ rfl _ _ 54 rfl w.heap.size 65 i0 (.agg #[.int .i64 0, .int .i64 0]) 2 16 Try.underlying54 G0.out G1.out G2.out G3.out rfl (by decide) _ _ _ rfl (World.ownsRow_made w #[] 0 (Nat.le_refl _) (by decide) rfl) ⟨b, off, none⟩ (m + 1) c (cellsOf p (m + 1)) rfl (cellsOf_length p _) (fun j u hj => cellB (b1 _ _) (hcc.out j u hj)) hone.out (by unfold maxLen; omega) (by omega) (by simp) ?_; intro v' w2 hown hgrow _; rw [Nat.zero_add, List.nil_append] at hown; obtain ⟨g', cap', rfl⟩ := ownsRow_succ hown)
  go_ret
  exact ⟨((Below.refl _ _).alloc (Nat.le_refl _) _).grown hgrow (by simp) (fun _ h => by cases h; exact Nat.le_refl _), g', cap', rfl, hown⟩
end Go.Proofs.Ytnjegnlfdbbleaa
