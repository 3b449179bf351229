/-
  DERIVED. GIVEN WITH THE SEED: THE CARDS: each row of YtfdaljekehkkaaaGreatDoorRows.lean that lists a variable, with what it lists TIED to the program's text (the seventh form; the later family's looks); each row that meets fmt, with fmt's text TOLD by the authors' own Lean function (tested against real Go, not proved from fmt's source: count such statements apart). THE CARD IS WHAT COUNTS. Prove the row's statement (the work); the ties are given (YtfdaljekehkkaaaGreatDoorTie.lean); close each card by the builder's one call (the guide's Derived/Test/ToyasCard.lean, 'card_holds'). Laid BY PROGRAM, IN A SANDBOX (cutbox-door.mjs). By AI agents, Wed Nov 11 2026. No macro, syntax, notation, axiom, sorry.
-/
import Derived.Test.YtfdaljekehkkaaaGreatDoorRows
import GoSem.ClaimSeven
namespace Go.Proofs.YtfdaljekehkkaaaGreatDoor
namespace Rows

/-- THE TIED CARD OF 'drovewaylaw05.BreedCloses'. -/
def breedClosesCard : Claim7 := { stood := { row := breedClosesRow, standIns := [], harness := (true, "e7de0cc6ecfa52853b57e7e930a0de32b4e44dde2031a3b6e32acf22dd4249ad"), looks := true }, kinds := [], alts := [], laidByText := true, laidKinds := [.data, .data], laidTests := true, laidLooks := .later }
def BreedClosesCardSaid : Prop := Claim7.holds Tryz.pinned (.plain (OpenSpec.ofChange breedClosesSpec)) breedClosesCard

/-- THE TIED CARD OF 'drovewaylaw05.BreedClosure'. -/
def breedClosureCard : Claim7 := { stood := { row := breedClosureRow, standIns := [], harness := (true, "e7de0cc6ecfa52853b57e7e930a0de32b4e44dde2031a3b6e32acf22dd4249ad"), looks := true }, kinds := [], alts := [], laidByText := true, laidKinds := [.data, .data], laidTests := true, laidLooks := .later }
def BreedClosureCardSaid : Prop := Claim7.holds Tryz.pinned (.plain (OpenSpec.ofChange breedClosureSpec)) breedClosureCard

/-- THE SECOND FORM's CARD OF 'drovewaylaw05.BreedCloses'. -/
def breedClosesUptoCard : Claim7 := { stood := { row := breedClosesUptoRow, standIns := [], harness := (true, "e7de0cc6ecfa52853b57e7e930a0de32b4e44dde2031a3b6e32acf22dd4249ad"), looks := true }, kinds := [], alts := [], laidByText := true, laidKinds := [.data, .data], laidTests := true, laidLooks := .later }
def BreedClosesUptoCardSaid : Prop := Claim7.holds Tryz.pinned (.plain (OpenSpec.upto breedClosesSpec)) breedClosesUptoCard

/-- THE SECOND FORM's CARD OF 'drovewaylaw05.BreedClosure'. -/
def breedClosureUptoCard : Claim7 := { stood := { row := breedClosureUptoRow, standIns := [], harness := (true, "e7de0cc6ecfa52853b57e7e930a0de32b4e44dde2031a3b6e32acf22dd4249ad"), looks := true }, kinds := [], alts := [], laidByText := true, laidKinds := [.data, .data], laidTests := true, laidLooks := .later }
def BreedClosureUptoCardSaid : Prop := Claim7.holds Tryz.pinned (.plain (OpenSpec.upto breedClosureSpec)) breedClosureUptoCard
end Rows
end Go.Proofs.YtfdaljekehkkaaaGreatDoor
