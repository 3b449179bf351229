/- Layer 2: slices.Insert, by the library's contract. -/
import Derived.Test.YtflbaadfbjpakaaDb
import Derived.Shelf.Spec.SlicesInsertGrow
namespace Go.Proofs.Ytflbaadfbjpakaa
open Go Go.RowKit Go.Shelf

/-- The numbers of this program beside the library's own. -/
def insRen : Ren := ⟨fun k => if k = 21 then 67 else if k = 27 then 81 else if k = 28 then 82 else if k = 35 then 90 else 96, fun t => if t = 3 then 3 else if t = 4 then 4 else if t = 22 then 30 else t, fun g => g⟩
theorem insLays : Lays2.n21 Try.prog insRen where
  mixed := by kernel_rfl
  f21 := by kernel_rfl
  f27 := by kernel_rfl
  f28 := by kernel_rfl
  f35 := by kernel_rfl
  f39 := by kernel_rfl
  t0 := by kernel_rfl
  a0 := fun _ => by kernel_rfl
  z0 := fun _ => by kernel_rfl
  v0 := fun _ => by kernel_rfl
  t3 := by kernel_rfl
  a3 := fun _ => by kernel_rfl
  z3 := fun _ => by kernel_rfl
  v3 := fun _ => by kernel_rfl
  t4 := by kernel_rfl
  a4 := fun _ => by kernel_rfl
  z4 := fun _ => by kernel_rfl
  v4 := fun _ => by kernel_rfl
  t22 := by kernel_rfl
  a22 := fun _ => by kernel_rfl
  z22 := fun _ => by kernel_rfl
  v22 := fun _ => by kernel_rfl
  i3 := by kernel_rfl
end Go.Proofs.Ytflbaadfbjpakaa
