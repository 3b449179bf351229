/-
  DERIVED. GIVEN WITH THE SEED: THE CARDS: each row of YtmejahoodeeijaaDoorRows.lean that lists a variable, with what it lists TIED to the program's text (the seventh form; the later family's looks); each row that meets fmt, with fmt's text TOLD by the authors' own Lean function (tested against real Go, not proved from fmt's source: count such statements apart). THE CARD IS WHAT COUNTS. Prove the row's statement (the work); the ties are given (YtmejahoodeeijaaDoorTie.lean); close each card by the builder's one call (the guide's Derived/Test/ToyasCard.lean, 'card_holds'). Laid BY PROGRAM, IN A SANDBOX (cutbox-door.mjs). By AI agents, Wed Nov 11 2026. No macro, syntax, notation, axiom, sorry.
-/
import Derived.Test.YtmejahoodeeijaaDoorRows
import GoSem.ClaimSeven
namespace Go.Proofs.YtmejahoodeeijaaDoor
namespace Rows

/-- THE TIED CARD OF 'drovewaylaw05.BreedCounts'. -/
def breedCountsCard : Claim7 := { stood := { row := breedCountsRow, standIns := [], harness := (true, "2c29a1529775e96ab6e51ff4df35e3e241a0418a06119b32ed4fa309a77d1cbe"), looks := true }, kinds := [], alts := [], laidByText := true, laidKinds := [.data, .data], laidTests := true, laidLooks := .later }
def BreedCountsCardSaid : Prop := Claim7.holds Tryd.pinned (.plain (OpenSpec.ofChange breedCountsSpec)) breedCountsCard

/-- THE TIED CARD OF 'drovewaylaw05.BreedMore'. -/
def breedMoreCard : Claim7 := { stood := { row := breedMoreRow, standIns := [], harness := (true, "2c29a1529775e96ab6e51ff4df35e3e241a0418a06119b32ed4fa309a77d1cbe"), looks := true }, kinds := [], alts := [], laidByText := true, laidKinds := [.data, .data], laidTests := true, laidLooks := .later }
def BreedMoreCardSaid : Prop := Claim7.holds Tryd.pinned (.plain (OpenSpec.ofChange breedMoreSpec)) breedMoreCard

/-- THE SECOND FORM's CARD OF 'drovewaylaw05.BreedCounts'. -/
def breedCountsUptoCard : Claim7 := { stood := { row := breedCountsUptoRow, standIns := [], harness := (true, "2c29a1529775e96ab6e51ff4df35e3e241a0418a06119b32ed4fa309a77d1cbe"), looks := true }, kinds := [], alts := [], laidByText := true, laidKinds := [.data, .data], laidTests := true, laidLooks := .later }
def BreedCountsUptoCardSaid : Prop := Claim7.holds Tryd.pinned (.plain (OpenSpec.upto breedCountsSpec)) breedCountsUptoCard

/-- THE SECOND FORM's CARD OF 'drovewaylaw05.BreedMore'. -/
def breedMoreUptoCard : Claim7 := { stood := { row := breedMoreUptoRow, standIns := [], harness := (true, "2c29a1529775e96ab6e51ff4df35e3e241a0418a06119b32ed4fa309a77d1cbe"), looks := true }, kinds := [], alts := [], laidByText := true, laidKinds := [.data, .data], laidTests := true, laidLooks := .later }
def BreedMoreUptoCardSaid : Prop := Claim7.holds Tryd.pinned (.plain (OpenSpec.upto breedMoreSpec)) breedMoreUptoCard
end Rows
end Go.Proofs.YtmejahoodeeijaaDoor
