/-
  DERIVED. GIVEN WITH THE SEED: THE CARDS: each row of YtmejahoodeeijaaGreatDoorRows.lean that lists a variable, with what it lists TIED to the program's text (the seventh form; the later family's looks); each row that meets fmt, with fmt's text TOLD by the authors' own Lean function (tested against real Go, not proved from fmt's source: count such statements apart). THE CARD IS WHAT COUNTS. Prove the row's statement (the work); the ties are given (YtmejahoodeeijaaGreatDoorTie.lean); close each card by the builder's one call (the guide's Derived/Test/ToyasCard.lean, 'card_holds'). Laid BY PROGRAM, IN A SANDBOX (cutbox-door.mjs). By AI agents, Wed Nov 11 2026. No macro, syntax, notation, axiom, sorry.
-/
import Derived.Test.YtmejahoodeeijaaGreatDoorRows
import GoSem.ClaimSeven
namespace Go.Proofs.YtmejahoodeeijaaGreatDoor
namespace Rows

/-- THE TIED CARD OF 'drovewaylaw05.BreedTrees'. -/
def breedTreesCard : Claim7 := { stood := { row := breedTreesRow, standIns := [], harness := (true, "26cf0d7713349fc01294aea0e679c23d1d13ab15b6bbf36c0695ada850f7cdd7"), looks := true }, kinds := [], alts := [], laidByText := true, laidKinds := [.data, .data], laidTests := true, laidLooks := .later }
def BreedTreesCardSaid : Prop := Claim7.holds Tryz.pinned (.plain (OpenSpec.ofChange breedTreesSpec)) breedTreesCard

/-- THE TIED CARD OF 'drovewaylaw05.BreedShows'. -/
def breedShowsCard : Claim7 := { stood := { row := breedShowsRow, standIns := [], harness := (true, "26cf0d7713349fc01294aea0e679c23d1d13ab15b6bbf36c0695ada850f7cdd7"), looks := true }, kinds := [], alts := [], laidByText := true, laidKinds := [.data, .data], laidTests := true, laidLooks := .later }
def BreedShowsCardSaid : Prop := Claim7.holds Tryz.pinned (.plain (OpenSpec.ofChange breedShowsSpec)) breedShowsCard

/-- THE TIED CARD OF 'drovewaylaw05.BreedBuilds'. -/
def breedBuildsCard : Claim7 := { stood := { row := breedBuildsRow, standIns := [], harness := (true, "26cf0d7713349fc01294aea0e679c23d1d13ab15b6bbf36c0695ada850f7cdd7"), looks := true }, kinds := [], alts := [], laidByText := true, laidKinds := [.data, .data], laidTests := true, laidLooks := .later }
def BreedBuildsCardSaid : Prop := Claim7.holds Tryz.pinned (.plain (OpenSpec.ofChange breedBuildsSpec)) breedBuildsCard

/-- THE TIED CARD OF 'drovewaylaw05.BreedCloses'. -/
def breedClosesCard : Claim7 := { stood := { row := breedClosesRow, standIns := [], harness := (true, "26cf0d7713349fc01294aea0e679c23d1d13ab15b6bbf36c0695ada850f7cdd7"), looks := true }, kinds := [], alts := [], laidByText := true, laidKinds := [.data, .data], laidTests := true, laidLooks := .later }
def BreedClosesCardSaid : Prop := Claim7.holds Tryz.pinned (.plain (OpenSpec.ofChange breedClosesSpec)) breedClosesCard

/-- THE TIED CARD OF 'drovewaylaw05.BreedKeeps'. -/
def breedKeepsCard : Claim7 := { stood := { row := breedKeepsRow, standIns := [], harness := (true, "26cf0d7713349fc01294aea0e679c23d1d13ab15b6bbf36c0695ada850f7cdd7"), looks := true }, kinds := [], alts := [], laidByText := true, laidKinds := [.data, .data], laidTests := true, laidLooks := .later }
def BreedKeepsCardSaid : Prop := Claim7.holds Tryz.pinned (.plain (OpenSpec.ofChange breedKeepsSpec)) breedKeepsCard

/-- THE TIED CARD OF 'drovewaylaw05.BreedAho'. -/
def breedAhoCard : Claim7 := { stood := { row := breedAhoRow, standIns := [], harness := (true, "26cf0d7713349fc01294aea0e679c23d1d13ab15b6bbf36c0695ada850f7cdd7"), looks := true }, kinds := [], alts := [], laidByText := true, laidKinds := [.data, .data], laidTests := true, laidLooks := .later }
def BreedAhoCardSaid : Prop := Claim7.holds Tryz.pinned (.plain (OpenSpec.ofChange breedAhoSpec)) breedAhoCard

/-- THE TIED CARD OF 'drovewaylaw05.BreedBack'. -/
def breedBackCard : Claim7 := { stood := { row := breedBackRow, standIns := [], harness := (true, "26cf0d7713349fc01294aea0e679c23d1d13ab15b6bbf36c0695ada850f7cdd7"), looks := true }, kinds := [], alts := [], laidByText := true, laidKinds := [.data, .data], laidTests := true, laidLooks := .later }
def BreedBackCardSaid : Prop := Claim7.holds Tryz.pinned (.plain (OpenSpec.ofChange breedBackSpec)) breedBackCard

/-- THE TIED CARD OF 'drovewaylaw05.BreedClosure'. -/
def breedClosureCard : Claim7 := { stood := { row := breedClosureRow, standIns := [], harness := (true, "26cf0d7713349fc01294aea0e679c23d1d13ab15b6bbf36c0695ada850f7cdd7"), looks := true }, kinds := [], alts := [], laidByText := true, laidKinds := [.data, .data], laidTests := true, laidLooks := .later }
def BreedClosureCardSaid : Prop := Claim7.holds Tryz.pinned (.plain (OpenSpec.ofChange breedClosureSpec)) breedClosureCard

/-- THE TIED CARD OF 'drovewaylaw05.BreedImplied'. -/
def breedImpliedCard : Claim7 := { stood := { row := breedImpliedRow, standIns := [], harness := (true, "26cf0d7713349fc01294aea0e679c23d1d13ab15b6bbf36c0695ada850f7cdd7"), looks := true }, kinds := [], alts := [], laidByText := true, laidKinds := [.data, .data], laidTests := true, laidLooks := .later }
def BreedImpliedCardSaid : Prop := Claim7.holds Tryz.pinned (.plain (OpenSpec.ofChange breedImpliedSpec)) breedImpliedCard

/-- THE TIED CARD OF 'drovewaylaw05.BreedKept'. -/
def breedKeptCard : Claim7 := { stood := { row := breedKeptRow, standIns := [], harness := (true, "26cf0d7713349fc01294aea0e679c23d1d13ab15b6bbf36c0695ada850f7cdd7"), looks := true }, kinds := [], alts := [], laidByText := true, laidKinds := [.data, .data], laidTests := true, laidLooks := .later }
def BreedKeptCardSaid : Prop := Claim7.holds Tryz.pinned (.plain (OpenSpec.ofChange breedKeptSpec)) breedKeptCard

/-- THE TIED CARD OF 'drovewaylaw05.BreedCounted'. -/
def breedCountedCard : Claim7 := { stood := { row := breedCountedRow, standIns := [], harness := (true, "26cf0d7713349fc01294aea0e679c23d1d13ab15b6bbf36c0695ada850f7cdd7"), looks := true }, kinds := [], alts := [], laidByText := true, laidKinds := [.data, .data], laidTests := true, laidLooks := .later }
def BreedCountedCardSaid : Prop := Claim7.holds Tryz.pinned (.plain (OpenSpec.ofChange breedCountedSpec)) breedCountedCard

/-- THE SECOND FORM's CARD OF 'drovewaylaw05.BreedTrees'. -/
def breedTreesUptoCard : Claim7 := { stood := { row := breedTreesUptoRow, standIns := [], harness := (true, "26cf0d7713349fc01294aea0e679c23d1d13ab15b6bbf36c0695ada850f7cdd7"), looks := true }, kinds := [], alts := [], laidByText := true, laidKinds := [.data, .data], laidTests := true, laidLooks := .later }
def BreedTreesUptoCardSaid : Prop := Claim7.holds Tryz.pinned (.plain (OpenSpec.upto breedTreesSpec)) breedTreesUptoCard

/-- THE SECOND FORM's CARD OF 'drovewaylaw05.BreedShows'. -/
def breedShowsUptoCard : Claim7 := { stood := { row := breedShowsUptoRow, standIns := [], harness := (true, "26cf0d7713349fc01294aea0e679c23d1d13ab15b6bbf36c0695ada850f7cdd7"), looks := true }, kinds := [], alts := [], laidByText := true, laidKinds := [.data, .data], laidTests := true, laidLooks := .later }
def BreedShowsUptoCardSaid : Prop := Claim7.holds Tryz.pinned (.plain (OpenSpec.upto breedShowsSpec)) breedShowsUptoCard

/-- THE SECOND FORM's CARD OF 'drovewaylaw05.BreedBuilds'. -/
def breedBuildsUptoCard : Claim7 := { stood := { row := breedBuildsUptoRow, standIns := [], harness := (true, "26cf0d7713349fc01294aea0e679c23d1d13ab15b6bbf36c0695ada850f7cdd7"), looks := true }, kinds := [], alts := [], laidByText := true, laidKinds := [.data, .data], laidTests := true, laidLooks := .later }
def BreedBuildsUptoCardSaid : Prop := Claim7.holds Tryz.pinned (.plain (OpenSpec.upto breedBuildsSpec)) breedBuildsUptoCard

/-- THE SECOND FORM's CARD OF 'drovewaylaw05.BreedCloses'. -/
def breedClosesUptoCard : Claim7 := { stood := { row := breedClosesUptoRow, standIns := [], harness := (true, "26cf0d7713349fc01294aea0e679c23d1d13ab15b6bbf36c0695ada850f7cdd7"), looks := true }, kinds := [], alts := [], laidByText := true, laidKinds := [.data, .data], laidTests := true, laidLooks := .later }
def BreedClosesUptoCardSaid : Prop := Claim7.holds Tryz.pinned (.plain (OpenSpec.upto breedClosesSpec)) breedClosesUptoCard

/-- THE SECOND FORM's CARD OF 'drovewaylaw05.BreedKeeps'. -/
def breedKeepsUptoCard : Claim7 := { stood := { row := breedKeepsUptoRow, standIns := [], harness := (true, "26cf0d7713349fc01294aea0e679c23d1d13ab15b6bbf36c0695ada850f7cdd7"), looks := true }, kinds := [], alts := [], laidByText := true, laidKinds := [.data, .data], laidTests := true, laidLooks := .later }
def BreedKeepsUptoCardSaid : Prop := Claim7.holds Tryz.pinned (.plain (OpenSpec.upto breedKeepsSpec)) breedKeepsUptoCard

/-- THE SECOND FORM's CARD OF 'drovewaylaw05.BreedAho'. -/
def breedAhoUptoCard : Claim7 := { stood := { row := breedAhoUptoRow, standIns := [], harness := (true, "26cf0d7713349fc01294aea0e679c23d1d13ab15b6bbf36c0695ada850f7cdd7"), looks := true }, kinds := [], alts := [], laidByText := true, laidKinds := [.data, .data], laidTests := true, laidLooks := .later }
def BreedAhoUptoCardSaid : Prop := Claim7.holds Tryz.pinned (.plain (OpenSpec.upto breedAhoSpec)) breedAhoUptoCard

/-- THE SECOND FORM's CARD OF 'drovewaylaw05.BreedBack'. -/
def breedBackUptoCard : Claim7 := { stood := { row := breedBackUptoRow, standIns := [], harness := (true, "26cf0d7713349fc01294aea0e679c23d1d13ab15b6bbf36c0695ada850f7cdd7"), looks := true }, kinds := [], alts := [], laidByText := true, laidKinds := [.data, .data], laidTests := true, laidLooks := .later }
def BreedBackUptoCardSaid : Prop := Claim7.holds Tryz.pinned (.plain (OpenSpec.upto breedBackSpec)) breedBackUptoCard

/-- THE SECOND FORM's CARD OF 'drovewaylaw05.BreedClosure'. -/
def breedClosureUptoCard : Claim7 := { stood := { row := breedClosureUptoRow, standIns := [], harness := (true, "26cf0d7713349fc01294aea0e679c23d1d13ab15b6bbf36c0695ada850f7cdd7"), looks := true }, kinds := [], alts := [], laidByText := true, laidKinds := [.data, .data], laidTests := true, laidLooks := .later }
def BreedClosureUptoCardSaid : Prop := Claim7.holds Tryz.pinned (.plain (OpenSpec.upto breedClosureSpec)) breedClosureUptoCard

/-- THE SECOND FORM's CARD OF 'drovewaylaw05.BreedImplied'. -/
def breedImpliedUptoCard : Claim7 := { stood := { row := breedImpliedUptoRow, standIns := [], harness := (true, "26cf0d7713349fc01294aea0e679c23d1d13ab15b6bbf36c0695ada850f7cdd7"), looks := true }, kinds := [], alts := [], laidByText := true, laidKinds := [.data, .data], laidTests := true, laidLooks := .later }
def BreedImpliedUptoCardSaid : Prop := Claim7.holds Tryz.pinned (.plain (OpenSpec.upto breedImpliedSpec)) breedImpliedUptoCard

/-- THE SECOND FORM's CARD OF 'drovewaylaw05.BreedKept'. -/
def breedKeptUptoCard : Claim7 := { stood := { row := breedKeptUptoRow, standIns := [], harness := (true, "26cf0d7713349fc01294aea0e679c23d1d13ab15b6bbf36c0695ada850f7cdd7"), looks := true }, kinds := [], alts := [], laidByText := true, laidKinds := [.data, .data], laidTests := true, laidLooks := .later }
def BreedKeptUptoCardSaid : Prop := Claim7.holds Tryz.pinned (.plain (OpenSpec.upto breedKeptSpec)) breedKeptUptoCard

/-- THE SECOND FORM's CARD OF 'drovewaylaw05.BreedCounted'. -/
def breedCountedUptoCard : Claim7 := { stood := { row := breedCountedUptoRow, standIns := [], harness := (true, "26cf0d7713349fc01294aea0e679c23d1d13ab15b6bbf36c0695ada850f7cdd7"), looks := true }, kinds := [], alts := [], laidByText := true, laidKinds := [.data, .data], laidTests := true, laidLooks := .later }
def BreedCountedUptoCardSaid : Prop := Claim7.holds Tryz.pinned (.plain (OpenSpec.upto breedCountedSpec)) breedCountedUptoCard
end Rows
end Go.Proofs.YtmejahoodeeijaaGreatDoor
