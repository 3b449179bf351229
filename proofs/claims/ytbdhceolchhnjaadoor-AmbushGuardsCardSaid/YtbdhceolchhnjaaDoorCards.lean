/-
  DERIVED. GIVEN WITH THE SEED: THE CARDS: each row of YtbdhceolchhnjaaDoorRows.lean that lists a variable, with what it lists TIED to the program's text (the seventh form; the later family's looks); each row that meets fmt, with fmt's text TOLD by the authors' own Lean function (tested against real Go, not proved from fmt's source: count such statements apart). THE CARD IS WHAT COUNTS. Prove the row's statement (the work); the ties are given (YtbdhceolchhnjaaDoorTie.lean); close each card by the builder's one call (the guide's Derived/Test/ToyasCard.lean, 'card_holds'). Laid BY PROGRAM, IN A SANDBOX (cutbox-door.mjs). By AI agents, Wed Nov 11 2026. No macro, syntax, notation, axiom, sorry.
-/
import Derived.Test.YtbdhceolchhnjaaDoorRows
import GoSem.ClaimSeven
namespace Go.Proofs.YtbdhceolchhnjaaDoor
namespace Rows

/-- THE TIED CARD OF 'drovewaylaw04.AmbushWins'. -/
def ambushWinsCard : Claim7 := { stood := { row := ambushWinsRow, standIns := [], harness := (true, "f42a0a705d87c21640501b1f338861d3ed32c2a8c1ea779ba5a5ed9237f71ada"), looks := false }, kinds := [], alts := [], laidByText := true, laidKinds := [.data, .data], laidTests := true, laidLooks := .later }
def AmbushWinsCardSaid : Prop := Claim7.holds Tryd.pinned (.plain (OpenSpec.ofChange ambushWinsSpec)) ambushWinsCard

/-- THE TIED CARD OF 'drovewaylaw04.AmbushPairs'. -/
def ambushPairsCard : Claim7 := { stood := { row := ambushPairsRow, standIns := [], harness := (true, "f42a0a705d87c21640501b1f338861d3ed32c2a8c1ea779ba5a5ed9237f71ada"), looks := false }, kinds := [], alts := [], laidByText := true, laidKinds := [.data, .data], laidTests := true, laidLooks := .later }
def AmbushPairsCardSaid : Prop := Claim7.holds Tryd.pinned (.plain (OpenSpec.ofChange ambushPairsSpec)) ambushPairsCard

/-- THE TIED CARD OF 'drovewaylaw04.AmbushGuards'. -/
def ambushGuardsCard : Claim7 := { stood := { row := ambushGuardsRow, standIns := [], harness := (true, "f42a0a705d87c21640501b1f338861d3ed32c2a8c1ea779ba5a5ed9237f71ada"), looks := false }, kinds := [], alts := [], laidByText := true, laidKinds := [.data, .data], laidTests := true, laidLooks := .later }
def AmbushGuardsCardSaid : Prop := Claim7.holds Tryd.pinned (.plain (OpenSpec.ofChange ambushGuardsSpec)) ambushGuardsCard

/-- THE TIED CARD OF 'drovewaylaw04.AmbushLines'. -/
def ambushLinesCard : Claim7 := { stood := { row := ambushLinesRow, standIns := [], harness := (true, "f42a0a705d87c21640501b1f338861d3ed32c2a8c1ea779ba5a5ed9237f71ada"), looks := false }, kinds := [], alts := [], laidByText := true, laidKinds := [.data, .data], laidTests := true, laidLooks := .later }
def AmbushLinesCardSaid : Prop := Claim7.holds Tryd.pinned (.plain (OpenSpec.ofChange ambushLinesSpec)) ambushLinesCard

/-- THE TIED CARD OF 'drovewaylaw04.AmbushBegins'. -/
def ambushBeginsCard : Claim7 := { stood := { row := ambushBeginsRow, standIns := [], harness := (true, "f42a0a705d87c21640501b1f338861d3ed32c2a8c1ea779ba5a5ed9237f71ada"), looks := false }, kinds := [], alts := [], laidByText := true, laidKinds := [.data, .data], laidTests := true, laidLooks := .later }
def AmbushBeginsCardSaid : Prop := Claim7.holds Tryd.pinned (.plain (OpenSpec.ofChange ambushBeginsSpec)) ambushBeginsCard

/-- THE TIED CARD OF 'drovewaytop.TopLines'. -/
def topLinesCard : Claim7 := { stood := { row := topLinesRow, standIns := [], harness := (true, "f42a0a705d87c21640501b1f338861d3ed32c2a8c1ea779ba5a5ed9237f71ada"), looks := false }, kinds := [], alts := [], laidByText := true, laidKinds := [.data, .data], laidTests := true, laidLooks := .later }
def TopLinesCardSaid : Prop := Claim7.holds Tryd.pinned (.plain (OpenSpec.ofChange topLinesSpec)) topLinesCard

/-- THE TIED CARD OF 'drovewaytop.TopBlocked'. -/
def topBlockedCard : Claim7 := { stood := { row := topBlockedRow, standIns := [], harness := (true, "f42a0a705d87c21640501b1f338861d3ed32c2a8c1ea779ba5a5ed9237f71ada"), looks := false }, kinds := [], alts := [], laidByText := true, laidKinds := [.data, .data], laidTests := true, laidLooks := .later }
def TopBlockedCardSaid : Prop := Claim7.holds Tryd.pinned (.plain (OpenSpec.ofChange topBlockedSpec)) topBlockedCard

/-- THE SECOND FORM's CARD OF 'drovewaylaw04.AmbushWins'. -/
def ambushWinsUptoCard : Claim7 := { stood := { row := ambushWinsUptoRow, standIns := [], harness := (true, "f42a0a705d87c21640501b1f338861d3ed32c2a8c1ea779ba5a5ed9237f71ada"), looks := false }, kinds := [], alts := [], laidByText := true, laidKinds := [.data, .data], laidTests := true, laidLooks := .later }
def AmbushWinsUptoCardSaid : Prop := Claim7.holds Tryd.pinned (.plain (OpenSpec.upto ambushWinsSpec)) ambushWinsUptoCard

/-- THE SECOND FORM's CARD OF 'drovewaylaw04.AmbushPairs'. -/
def ambushPairsUptoCard : Claim7 := { stood := { row := ambushPairsUptoRow, standIns := [], harness := (true, "f42a0a705d87c21640501b1f338861d3ed32c2a8c1ea779ba5a5ed9237f71ada"), looks := false }, kinds := [], alts := [], laidByText := true, laidKinds := [.data, .data], laidTests := true, laidLooks := .later }
def AmbushPairsUptoCardSaid : Prop := Claim7.holds Tryd.pinned (.plain (OpenSpec.upto ambushPairsSpec)) ambushPairsUptoCard

/-- THE SECOND FORM's CARD OF 'drovewaylaw04.AmbushGuards'. -/
def ambushGuardsUptoCard : Claim7 := { stood := { row := ambushGuardsUptoRow, standIns := [], harness := (true, "f42a0a705d87c21640501b1f338861d3ed32c2a8c1ea779ba5a5ed9237f71ada"), looks := false }, kinds := [], alts := [], laidByText := true, laidKinds := [.data, .data], laidTests := true, laidLooks := .later }
def AmbushGuardsUptoCardSaid : Prop := Claim7.holds Tryd.pinned (.plain (OpenSpec.upto ambushGuardsSpec)) ambushGuardsUptoCard

/-- THE SECOND FORM's CARD OF 'drovewaylaw04.AmbushLines'. -/
def ambushLinesUptoCard : Claim7 := { stood := { row := ambushLinesUptoRow, standIns := [], harness := (true, "f42a0a705d87c21640501b1f338861d3ed32c2a8c1ea779ba5a5ed9237f71ada"), looks := false }, kinds := [], alts := [], laidByText := true, laidKinds := [.data, .data], laidTests := true, laidLooks := .later }
def AmbushLinesUptoCardSaid : Prop := Claim7.holds Tryd.pinned (.plain (OpenSpec.upto ambushLinesSpec)) ambushLinesUptoCard

/-- THE SECOND FORM's CARD OF 'drovewaylaw04.AmbushBegins'. -/
def ambushBeginsUptoCard : Claim7 := { stood := { row := ambushBeginsUptoRow, standIns := [], harness := (true, "f42a0a705d87c21640501b1f338861d3ed32c2a8c1ea779ba5a5ed9237f71ada"), looks := false }, kinds := [], alts := [], laidByText := true, laidKinds := [.data, .data], laidTests := true, laidLooks := .later }
def AmbushBeginsUptoCardSaid : Prop := Claim7.holds Tryd.pinned (.plain (OpenSpec.upto ambushBeginsSpec)) ambushBeginsUptoCard

/-- THE SECOND FORM's CARD OF 'drovewaytop.TopLines'. -/
def topLinesUptoCard : Claim7 := { stood := { row := topLinesUptoRow, standIns := [], harness := (true, "f42a0a705d87c21640501b1f338861d3ed32c2a8c1ea779ba5a5ed9237f71ada"), looks := false }, kinds := [], alts := [], laidByText := true, laidKinds := [.data, .data], laidTests := true, laidLooks := .later }
def TopLinesUptoCardSaid : Prop := Claim7.holds Tryd.pinned (.plain (OpenSpec.upto topLinesSpec)) topLinesUptoCard

/-- THE SECOND FORM's CARD OF 'drovewaytop.TopBlocked'. -/
def topBlockedUptoCard : Claim7 := { stood := { row := topBlockedUptoRow, standIns := [], harness := (true, "f42a0a705d87c21640501b1f338861d3ed32c2a8c1ea779ba5a5ed9237f71ada"), looks := false }, kinds := [], alts := [], laidByText := true, laidKinds := [.data, .data], laidTests := true, laidLooks := .later }
def TopBlockedUptoCardSaid : Prop := Claim7.holds Tryd.pinned (.plain (OpenSpec.upto topBlockedSpec)) topBlockedUptoCard
end Rows
end Go.Proofs.YtbdhceolchhnjaaDoor
