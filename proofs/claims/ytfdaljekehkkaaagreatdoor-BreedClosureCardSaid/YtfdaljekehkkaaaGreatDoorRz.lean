/- Layer 5: what the rows have in common: how arguments that came in are read. -/
import Derived.Test.YtfdaljekehkkaaaGreatDoorProg
import Derived.Test.YtfdaljekehkkaaaGreatDoorChecked
import Derived.Test.YtfdaljekehkkaaaGreatDoorRows
import Derived.Test.YtfdaljekehkkaaaGreatDoorVa
import Derived.WalkKit
import Derived.ProofKit
import Derived.OpenShut
import Derived.ChangeOld
import Derived.Below
import Derived.Carry
import Derived.Lib.SmallJoins
import Derived.ChangeMaps5
import Derived.Lib.LaidTab
import Derived.LaidMore
import Derived.Stop.LaidErr
import Derived.Stop.Joined
import Derived.SevenTiedAt
import Derived.Test.YtfdaljekehkkaaaGreatDoorTie
import Derived.Test.YtfdaljekehkkaaaGreatDoorCards
import Derived.Test.YtfdaljekehkkaaaGreatDoorBa
import Derived.Test.YtfdaljekehkkaaaGreatDoorDb
import Derived.Deep.SlicePairs
namespace Go.Proofs.YtfdaljekehkkaaaGreatDoor
open Go Go.ChangeShapes Go.WideShapes Go.ChangeAt Go.RowKit

theorem own : ownKnob Tryz.prog.godebug = none := by kernel_rfl
theorem laidOut : laidOutB Tryz.prog = true := by kernel_rfl
set_option maxRecDepth 100000 in
/-- A triple that came in, by its three cells. -/
theorem trips_open0 {H : Type} {enc : TypeId × Value → H} {W : World} {a : Option Addr} {len cap fuel : Nat} {x : DataW H × List MemPlace}
    (hf : DataW.trod enc Tryz.prog W 0 (fun _ => true) true fuel 22 [.slice a len cap] = some x) : ∃ L, Trips W a L ∧ L.length = len ∧ len ≤ cap ∧ (a = none → cap = 0) := by
  rcases Go.Deep.open_slice Tryz.underlying22 hf with ⟨hc, _⟩ | ⟨y, l, c, m, n, D, Pl, hc, hb, hl, hm, hmm, hxx, hall⟩
  · simp only [List.cons.injEq, Value.slice.injEq, and_true] at hc
    obtain ⟨rfl, rfl, rfl⟩ := hc
    exact ⟨[], .inl rfl, rfl, Nat.le_refl _, fun _ => rfl⟩
  · simp only [List.cons.injEq, Value.slice.injEq, and_true] at hc
    obtain ⟨rfl, rfl, rfl⟩ := hc
    simp only [if_true] at hmm
    subst hmm
    have ce : Tryz.prog.cellsOf 36 = 3 := by kernel_rfl
    have each : ∀ i, i < m → ∃ q : T3, W.cell? (y.add (i * 3)) = some (.int .i64 q.1) ∧ W.cell? (y.add (i * 3 + 1)) = some (.int .i64 q.2.1) ∧ W.cell? (y.add (i * 3 + 2)) = some (.int .i64 q.2.2) := by
      intro i hi
      obtain ⟨cs', h1, h2⟩ := hall i hi
      rw [ce] at h1
      obtain ⟨_, hlen, hcell⟩ := World.cells?_some h1
      obtain ⟨y0, y1, y2, k, _, _, g0, g1, g2⟩ := Go.Deep.trod_struct3 Tryz.underlying36 h2
      match cs', hlen with
      | [v0, v1, v2], _ =>
        have e0 := hcell 0 (by omega)
        have e1 := hcell 1 (by omega)
        have e2 := hcell 2 (by omega)
        rw [Go.Deep.add_add] at e0 e1 e2
        have c1 : Tryz.prog.cellsOf 3 = 1 := by kernel_rfl
        simp [c1] at g0 g1 g2
        obtain ⟨N0, r0, _, _⟩ := DataW.trod_int Tryz.underlying3 g0
        obtain ⟨N1, r1, _, _⟩ := DataW.trod_int Tryz.underlying3 g1
        obtain ⟨N2, r2, _, _⟩ := DataW.trod_int Tryz.underlying3 g2
        simp only [List.cons.injEq, and_true] at r0 r1 r2
        subst r0 r1 r2
        exact ⟨(N0, N1, N2), by simpa using e0, by simpa using e1, by simpa using e2⟩
    obtain ⟨q, hq⟩ := Go.Deep.choose_lt each
    refine ⟨(List.range len).map q, ?_, by simp, hl, fun h => by cases h⟩
    by_cases h0 : len = 0
    · exact .inl (by simp [h0])
    · obtain ⟨b, off, spot⟩ := y
      have hspot : spot = none := by simpa [Addr.add] using World.cell?_spot (hq 0 (by omega)).1
      subst hspot
      refine .inr ⟨b, off, rfl, fun i hi => ?_⟩
      have hi' : i < len := by simpa using hi
      have hp : tth ((List.range len).map q) i = q i := by simp [tth, hi']
      rw [hp]
      obtain ⟨h1, h2, h3⟩ := hq i (by omega)
      have ha : ∀ j, Addr.add ⟨b, off, none⟩ j = ⟨b, off + j, none⟩ := fun j => by simp [Addr.add]
      rw [ha] at h1 h2 h3
      exact ⟨h1, by rw [Nat.add_assoc]; exact h2, by rw [Nat.add_assoc]; exact h3⟩
set_option maxRecDepth 100000 in
/-- A triple by value. -/
theorem trip_open {H : Type} {enc : TypeId × Value → H} {W : World} {b0 : Nat} {r : Reach} {v : Value} {d : DataW H} {p : List MemPlace}
    (hv : Value.okWide Tryz.prog W r b0 36 v) (h : DataW.Trod enc Tryz.prog W 0 (fun _ => true) true 36 v d p) : ∃ t : T3, v = t3V t := by
  obtain ⟨v0, v1, v2, y0, y1, y2, n, rfl, _, _, g0, g1, g2⟩ := Go.Joins.open_agg3 Tryz.underlying36 (by kernel_rfl) (by kernel_rfl) hv h
  obtain ⟨N0, r0, _, _⟩ := DataW.trod_int Tryz.underlying3 g0
  obtain ⟨N1, r1, _, _⟩ := DataW.trod_int Tryz.underlying3 g1
  obtain ⟨N2, r2, _, _⟩ := DataW.trod_int Tryz.underlying3 g2
  simp only [List.cons.injEq, and_true] at r0 r1 r2
  subst r0 r1 r2
  exact ⟨(N0, N1, N2), rfl⟩
/-- A number's range. -/
theorem wf_bds {k : IntKind} {n : Int} (h : (Lit.int k n).wf = true) : k.min ≤ n ∧ n ≤ k.max := by
  simpa [Lit.wf] using h
/-- What the rows lay: the two tables of math/bits. -/
abbrev laidL : List (String × DataW Unit) := [("math/bits.deBruijn32tab", Rows.laid_math_bits_deBruijn32tab), ("math/bits.deBruijn64tab", Rows.laid_math_bits_deBruijn64tab)]
theorem door_met (os : Os) (args : Array Value) : laidMetH Tryz.prog laidL ((World.doorLaid Tryz.prog 400 os).forCall (fun _ _ => 0) ⟨#[], args, []⟩).memory :=
  laidMetH_of_parts3 (fuel := 8) (laidMet_of_run' 8 (by kernel_rfl) (by kernel_rfl)) (by kernel_rfl) (by kernel_rfl)
theorem of_laid {W : World} (h : laidMetH Tryz.prog laidL W) : Tab W := by
  rw [MakeChecks.laidMetH_plain _ _ _ (by kernel_rfl)] at h
  have h2 : laidMet Tryz.prog [("math/bits.deBruijn64tab", Lib.tabData .u8 (tab64.map fun n : Nat => (n : Int)))] W := laidMet.tail h
  have h3 := Lib.tabIs_of_head (g := 1) (t := 115) (e := 5) (n := 64) (by kernel_rfl) (by kernel_rfl) Tryz.underlying115 Tryz.underlying5 (by kernel_rfl) (by kernel_rfl) h2
  intro i hi
  have := h3.cell (g := 1) (by kernel_rfl) i (by simpa [tab64] using hi)
  rw [this]
  simp [List.getD_eq_getElem?_getD, List.getElem?_map]
  have hl : i < tab64.length := hi
  rw [List.getElem?_eq_getElem hl]
  rfl
end Go.Proofs.YtfdaljekehkkaaaGreatDoor
