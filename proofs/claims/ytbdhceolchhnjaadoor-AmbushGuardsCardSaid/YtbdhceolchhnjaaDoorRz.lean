/- Layer 3: what the rows have in common: how arguments that came in are read. -/
import Derived.Test.YtbdhceolchhnjaaDoorProg
import Derived.Test.YtbdhceolchhnjaaDoorChecked
import Derived.Test.YtbdhceolchhnjaaDoorRows
import Derived.Test.YtbdhceolchhnjaaDoorVa
import Derived.WalkKit
import Derived.ProofKit
import Derived.OpenShut
import Derived.ChangeOld
import Derived.Below
import Derived.Carry
import Derived.Lib.SmallJoins
import Derived.ChangeMaps5
import Derived.Lib.LaidTab
import Derived.LaidMore
import Derived.Stop.LaidErr
import Derived.Stop.Joined
import Derived.SevenTiedAt
import Derived.Test.YtbdhceolchhnjaaDoorTie
import Derived.Test.YtbdhceolchhnjaaDoorCards
import Derived.Test.YtbdhceolchhnjaaDoorAe
namespace Go.Proofs.YtbdhceolchhnjaaDoor
open Go Go.ChangeShapes Go.WideShapes Go.ChangeAt Go.RowKit

theorem own : ownKnob Tryd.prog.godebug = none := by kernel_rfl
theorem laidOut : laidOutB Tryd.prog = true := by kernel_rfl
/-- A slice of numbers that came in. -/
theorem ints_open0 {H : Type} {enc : TypeId × Value → H} {W : World} {a : Option Addr} {len cap fuel : Nat} {x : DataW H × List MemPlace}
    (hf : DataW.trod enc Tryd.prog W 0 (fun _ => true) true fuel 22 [.slice a len cap] = some x) : ∃ L, Ints W a L ∧ L.length = len ∧ len ≤ cap ∧ (a = none → cap = 0) := by
  rcases Go.ChangeShapes.open_ints Tryd.underlying22 Tryd.underlying3 (by kernel_rfl) hf with ⟨hc, _⟩ | ⟨y, l, c, zs, hc, _, hl, hm, hz, hx, hall, hwf⟩
  · simp only [List.cons.injEq, Value.slice.injEq, and_true] at hc
    obtain ⟨rfl, rfl, rfl⟩ := hc
    exact ⟨[], .inl rfl, rfl, Nat.le_refl _, fun _ => rfl⟩
  · simp only [List.cons.injEq, Value.slice.injEq, and_true] at hc
    obtain ⟨rfl, rfl, rfl⟩ := hc
    simp only [if_true] at hz
    have hlen : (zs.take len).length = len := by rw [List.length_take]; omega
    refine ⟨zs.take len, ?_, hlen, hl, fun h => by cases h⟩
    by_cases h0 : len = 0
    · exact .inl (by rw [hlen, h0])
    · obtain ⟨b, off, spot⟩ := y
      have hspot : spot = none := by simpa [Addr.add] using World.cell?_spot (hall 0 (by omega))
      subst hspot
      refine .inr ⟨b, off, rfl, fun i hi => ?_⟩
      rw [hlen] at hi
      have h1 := hall i (by omega)
      rw [show Addr.add ⟨b, off, none⟩ i = ⟨b, off + i, none⟩ by simp [Addr.add]] at h1
      have hp : nth (zs.take len) i = zs.getD i 0 := by
        unfold nth
        rw [List.getD_eq_getElem?_getD, List.getElem?_take, if_pos hi, List.getD_eq_getElem?_getD]
      rw [hp]
      exact h1
/-- A number's range. -/
theorem wf_bds {k : IntKind} {n : Int} (h : (Lit.int k n).wf = true) : k.min ≤ n ∧ n ≤ k.max := by
  simpa [Lit.wf] using h
/-- What the rows lay: the two tables of math/bits. -/
abbrev laidL : List (String × DataW Unit) := [("math/bits.deBruijn32tab", Rows.laid_math_bits_deBruijn32tab), ("math/bits.deBruijn64tab", Rows.laid_math_bits_deBruijn64tab)]
theorem door_met (os : Os) (args : Array Value) : laidMetH Tryd.prog laidL ((World.doorLaid Tryd.prog 400 os).forCall (fun _ _ => 0) ⟨#[], args, []⟩).memory :=
  laidMetH_of_parts3 (fuel := 8) (laidMet_of_run' 8 (by kernel_rfl) (by kernel_rfl)) (by kernel_rfl) (by kernel_rfl)
theorem of_laid {W : World} (h : laidMetH Tryd.prog laidL W) : Tab W := by
  rw [MakeChecks.laidMetH_plain _ _ _ (by kernel_rfl)] at h
  have h2 : laidMet Tryd.prog [("math/bits.deBruijn64tab", Lib.tabData .u8 (tab64.map fun n : Nat => (n : Int)))] W := laidMet.tail h
  have h3 := Lib.tabIs_of_head (g := 1) (t := 132) (e := 5) (n := 64) (by kernel_rfl) (by kernel_rfl) Tryd.underlying132 Tryd.underlying5 (by kernel_rfl) (by kernel_rfl) h2
  intro i hi
  have := h3.cell (g := 1) (by kernel_rfl) i (by simpa [tab64] using hi)
  rw [this]
  simp [List.getD_eq_getElem?_getD, List.getElem?_map]
  have hl : i < tab64.length := hi
  rw [List.getElem?_eq_getElem hl]
  rfl
end Go.Proofs.YtbdhceolchhnjaaDoor
