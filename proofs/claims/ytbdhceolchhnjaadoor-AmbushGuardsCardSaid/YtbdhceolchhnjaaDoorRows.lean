/-
  NARROWER THAN 'FOR EVERY INPUT', by the rows' own cells (each row's printed sentence says how): AmbushWins: laid · AmbushPairs: laid · AmbushGuards: laid · AmbushLines: laid · AmbushBegins: laid · TopLines: laid · TopBlocked: laid.
  DERIVED. THE GIVEN ROWS OF THIS SEAT. 7 by the template 'for every input the law returns true; each argument reads behind the call as it read before'; 0 by the template 'total and deterministic' (their statements: YtbdhceolchhnjaaDoorTotals.lean).
  GIVEN WITH THE SEED: the statements are not yours to turn. If you find one false, say at which input.
  Laid BY PROGRAM, IN A SANDBOX (cutbox-rows.mjs): the forced cells as the released guide's own fill.sh prints them over the translation 272cd3e2760d3188… (all of the seat's roots in one cut). By AI agents, Wed Nov 11 2026. No macro, syntax, notation, axiom, sorry.
-/
import Derived.Test.YtbdhceolchhnjaaDoorChecked
import GoSem.Claim
import GoSem.ClaimJoined
import GoSem.ClaimMapViews
import Derived.JoinedTies
import Derived.KernelRfl
namespace Go.Proofs.YtbdhceolchhnjaaDoor
/- THE CELL 'sum', in the pinned program and in every row, IS THE sha256 OF THE DUMP (.gsa) THAT YtbdhceolchhnjaaDoorProg.lean LOADS. Nothing in Lean hashes anything: it is a label: what it is worth is what the hold of that sum in a sandbox is worth. -/
noncomputable def Tryd.pinned : Pinned := { name := "ytbdhceolchhnjaadoor", sum := "272cd3e2760d31881ab6a92ce5e03d36ec94c0c84c38a77b3da704c2a734ee46", checked := Tryd.checked }
namespace Rows
def none {H : Type} : Left H := { results := [], args := [] }

/- WHAT THE LISTED PACKAGE-LEVEL VARIABLES READ AS WHEN THE CALL BEGINS. Each datum BY PROGRAM (the guide's laid-datum.mjs) off the statement by which the dump's own 'gosem.cut.vars' lays the variable. In a bare row this is a premise. The card (YtbdhceolchhnjaaDoorCards.lean) ties it to the program's text. -/
def laid_math_bits_deBruijn32tab {H : Type} : DataW H := .agg [.lit (.int .u8 0), .lit (.int .u8 1), .lit (.int .u8 28), .lit (.int .u8 2), .lit (.int .u8 29), .lit (.int .u8 14), .lit (.int .u8 24), .lit (.int .u8 3), .lit (.int .u8 30), .lit (.int .u8 22), .lit (.int .u8 20), .lit (.int .u8 15), .lit (.int .u8 25), .lit (.int .u8 17), .lit (.int .u8 4), .lit (.int .u8 8), .lit (.int .u8 31), .lit (.int .u8 27), .lit (.int .u8 13), .lit (.int .u8 23), .lit (.int .u8 21), .lit (.int .u8 19), .lit (.int .u8 16), .lit (.int .u8 7), .lit (.int .u8 26), .lit (.int .u8 12), .lit (.int .u8 18), .lit (.int .u8 6), .lit (.int .u8 11), .lit (.int .u8 5), .lit (.int .u8 10), .lit (.int .u8 9)]
def laid_math_bits_deBruijn64tab {H : Type} : DataW H := .agg [.lit (.int .u8 0), .lit (.int .u8 1), .lit (.int .u8 56), .lit (.int .u8 2), .lit (.int .u8 57), .lit (.int .u8 49), .lit (.int .u8 28), .lit (.int .u8 3), .lit (.int .u8 61), .lit (.int .u8 58), .lit (.int .u8 42), .lit (.int .u8 50), .lit (.int .u8 38), .lit (.int .u8 29), .lit (.int .u8 17), .lit (.int .u8 4), .lit (.int .u8 62), .lit (.int .u8 47), .lit (.int .u8 59), .lit (.int .u8 36), .lit (.int .u8 45), .lit (.int .u8 43), .lit (.int .u8 51), .lit (.int .u8 22), .lit (.int .u8 53), .lit (.int .u8 39), .lit (.int .u8 33), .lit (.int .u8 30), .lit (.int .u8 24), .lit (.int .u8 18), .lit (.int .u8 12), .lit (.int .u8 5), .lit (.int .u8 63), .lit (.int .u8 55), .lit (.int .u8 48), .lit (.int .u8 27), .lit (.int .u8 60), .lit (.int .u8 41), .lit (.int .u8 37), .lit (.int .u8 16), .lit (.int .u8 46), .lit (.int .u8 35), .lit (.int .u8 44), .lit (.int .u8 21), .lit (.int .u8 52), .lit (.int .u8 32), .lit (.int .u8 23), .lit (.int .u8 11), .lit (.int .u8 54), .lit (.int .u8 26), .lit (.int .u8 40), .lit (.int .u8 15), .lit (.int .u8 34), .lit (.int .u8 20), .lit (.int .u8 31), .lit (.int .u8 10), .lit (.int .u8 25), .lit (.int .u8 14), .lit (.int .u8 19), .lit (.int .u8 9), .lit (.int .u8 13), .lit (.int .u8 8), .lit (.int .u8 7), .lit (.int .u8 6)]

/-- 'drovewaylaw04.AmbushWins': WHATEVER THE INPUT: true; the input reads as it did. -/
def ambushWinsSpec : ChangeSpec := { name := "ambushWins", fn := fun _ => fun
  | [d1, d2, d3, d4] => { results := [.lit (.bool true)], args := [d1, d2, d3, d4] }
  | _ => none }
def ambushWinsRow : OpenClaim := { program := "ytbdhceolchhnjaadoor", sum := "272cd3e2760d31881ab6a92ce5e03d36ec94c0c84c38a77b3da704c2a734ee46", func := "droveway/drovewaylaw04.AmbushWins", spec := "ambushWins", unfollowed := true, recurses := true, named := ["math/bits.deBruijn32tab", "math/bits.deBruijn64tab"], plainKeys := false, apart := false, laid := [("math/bits.deBruijn32tab", laid_math_bits_deBruijn32tab), ("math/bits.deBruijn64tab", laid_math_bits_deBruijn64tab)] }
def AmbushWinsSaid : Prop := ambushWinsRow.holds Tryd.pinned (OpenSpec.ofChange ambushWinsSpec)

/-- ITS FALSE NEIGHBOUR: 'it returns false'. Refute it at one input. -/
def ambushWinsWrong : ChangeSpec := { name := "ambushWins", fn := fun _ => fun
  | [d1, d2, d3, d4] => { results := [.lit (.bool false)], args := [d1, d2, d3, d4] }
  | _ => none }
def AmbushWinsWrongFalsely : Prop := ambushWinsRow.holds Tryd.pinned (OpenSpec.ofChange ambushWinsWrong)

/-- 'drovewaylaw04.AmbushPairs': WHATEVER THE INPUT: true; the input reads as it did. -/
def ambushPairsSpec : ChangeSpec := { name := "ambushPairs", fn := fun _ => fun
  | [d1, d2, d3, d4] => { results := [.lit (.bool true)], args := [d1, d2, d3, d4] }
  | _ => none }
def ambushPairsRow : OpenClaim := { program := "ytbdhceolchhnjaadoor", sum := "272cd3e2760d31881ab6a92ce5e03d36ec94c0c84c38a77b3da704c2a734ee46", func := "droveway/drovewaylaw04.AmbushPairs", spec := "ambushPairs", unfollowed := true, recurses := true, named := ["math/bits.deBruijn32tab", "math/bits.deBruijn64tab"], plainKeys := false, apart := false, laid := [("math/bits.deBruijn32tab", laid_math_bits_deBruijn32tab), ("math/bits.deBruijn64tab", laid_math_bits_deBruijn64tab)] }
def AmbushPairsSaid : Prop := ambushPairsRow.holds Tryd.pinned (OpenSpec.ofChange ambushPairsSpec)

/-- ITS FALSE NEIGHBOUR: 'it returns false'. Refute it at one input. -/
def ambushPairsWrong : ChangeSpec := { name := "ambushPairs", fn := fun _ => fun
  | [d1, d2, d3, d4] => { results := [.lit (.bool false)], args := [d1, d2, d3, d4] }
  | _ => none }
def AmbushPairsWrongFalsely : Prop := ambushPairsRow.holds Tryd.pinned (OpenSpec.ofChange ambushPairsWrong)

/-- 'drovewaylaw04.AmbushGuards': WHATEVER THE INPUT: true; the input reads as it did. -/
def ambushGuardsSpec : ChangeSpec := { name := "ambushGuards", fn := fun _ => fun
  | [d1, d2] => { results := [.lit (.bool true)], args := [d1, d2] }
  | _ => none }
def ambushGuardsRow : OpenClaim := { program := "ytbdhceolchhnjaadoor", sum := "272cd3e2760d31881ab6a92ce5e03d36ec94c0c84c38a77b3da704c2a734ee46", func := "droveway/drovewaylaw04.AmbushGuards", spec := "ambushGuards", unfollowed := true, recurses := true, named := ["math/bits.deBruijn32tab", "math/bits.deBruijn64tab"], plainKeys := false, apart := false, laid := [("math/bits.deBruijn32tab", laid_math_bits_deBruijn32tab), ("math/bits.deBruijn64tab", laid_math_bits_deBruijn64tab)] }
def AmbushGuardsSaid : Prop := ambushGuardsRow.holds Tryd.pinned (OpenSpec.ofChange ambushGuardsSpec)

/-- ITS FALSE NEIGHBOUR: 'it returns false'. Refute it at one input. -/
def ambushGuardsWrong : ChangeSpec := { name := "ambushGuards", fn := fun _ => fun
  | [d1, d2] => { results := [.lit (.bool false)], args := [d1, d2] }
  | _ => none }
def AmbushGuardsWrongFalsely : Prop := ambushGuardsRow.holds Tryd.pinned (OpenSpec.ofChange ambushGuardsWrong)

/-- 'drovewaylaw04.AmbushLines': WHATEVER THE INPUT: true; the input reads as it did. -/
def ambushLinesSpec : ChangeSpec := { name := "ambushLines", fn := fun _ => fun
  | [d1, d2, d3, d4, d5] => { results := [.lit (.bool true)], args := [d1, d2, d3, d4, d5] }
  | _ => none }
def ambushLinesRow : OpenClaim := { program := "ytbdhceolchhnjaadoor", sum := "272cd3e2760d31881ab6a92ce5e03d36ec94c0c84c38a77b3da704c2a734ee46", func := "droveway/drovewaylaw04.AmbushLines", spec := "ambushLines", unfollowed := true, recurses := true, named := ["math/bits.deBruijn32tab", "math/bits.deBruijn64tab"], plainKeys := false, apart := false, laid := [("math/bits.deBruijn32tab", laid_math_bits_deBruijn32tab), ("math/bits.deBruijn64tab", laid_math_bits_deBruijn64tab)] }
def AmbushLinesSaid : Prop := ambushLinesRow.holds Tryd.pinned (OpenSpec.ofChange ambushLinesSpec)

/-- ITS FALSE NEIGHBOUR: 'it returns false'. Refute it at one input. -/
def ambushLinesWrong : ChangeSpec := { name := "ambushLines", fn := fun _ => fun
  | [d1, d2, d3, d4, d5] => { results := [.lit (.bool false)], args := [d1, d2, d3, d4, d5] }
  | _ => none }
def AmbushLinesWrongFalsely : Prop := ambushLinesRow.holds Tryd.pinned (OpenSpec.ofChange ambushLinesWrong)

/-- 'drovewaylaw04.AmbushBegins': WHATEVER THE INPUT: true; the input reads as it did. -/
def ambushBeginsSpec : ChangeSpec := { name := "ambushBegins", fn := fun _ => fun
  | [d1, d2, d3] => { results := [.lit (.bool true)], args := [d1, d2, d3] }
  | _ => none }
def ambushBeginsRow : OpenClaim := { program := "ytbdhceolchhnjaadoor", sum := "272cd3e2760d31881ab6a92ce5e03d36ec94c0c84c38a77b3da704c2a734ee46", func := "droveway/drovewaylaw04.AmbushBegins", spec := "ambushBegins", unfollowed := true, recurses := true, named := ["math/bits.deBruijn32tab", "math/bits.deBruijn64tab"], plainKeys := false, apart := false, laid := [("math/bits.deBruijn32tab", laid_math_bits_deBruijn32tab), ("math/bits.deBruijn64tab", laid_math_bits_deBruijn64tab)] }
def AmbushBeginsSaid : Prop := ambushBeginsRow.holds Tryd.pinned (OpenSpec.ofChange ambushBeginsSpec)

/-- ITS FALSE NEIGHBOUR: 'it returns false'. Refute it at one input. -/
def ambushBeginsWrong : ChangeSpec := { name := "ambushBegins", fn := fun _ => fun
  | [d1, d2, d3] => { results := [.lit (.bool false)], args := [d1, d2, d3] }
  | _ => none }
def AmbushBeginsWrongFalsely : Prop := ambushBeginsRow.holds Tryd.pinned (OpenSpec.ofChange ambushBeginsWrong)

/-- 'drovewaytop.TopLines': WHATEVER THE INPUT: true; the input reads as it did. -/
def topLinesSpec : ChangeSpec := { name := "topLines", fn := fun _ => fun
  | [d1, d2, d3] => { results := [.lit (.bool true)], args := [d1, d2, d3] }
  | _ => none }
def topLinesRow : OpenClaim := { program := "ytbdhceolchhnjaadoor", sum := "272cd3e2760d31881ab6a92ce5e03d36ec94c0c84c38a77b3da704c2a734ee46", func := "droveway/drovewaytop.TopLines", spec := "topLines", unfollowed := true, recurses := true, named := ["math/bits.deBruijn32tab", "math/bits.deBruijn64tab"], plainKeys := false, apart := false, laid := [("math/bits.deBruijn32tab", laid_math_bits_deBruijn32tab), ("math/bits.deBruijn64tab", laid_math_bits_deBruijn64tab)] }
def TopLinesSaid : Prop := topLinesRow.holds Tryd.pinned (OpenSpec.ofChange topLinesSpec)

/-- ITS FALSE NEIGHBOUR: 'it returns false'. Refute it at one input. -/
def topLinesWrong : ChangeSpec := { name := "topLines", fn := fun _ => fun
  | [d1, d2, d3] => { results := [.lit (.bool false)], args := [d1, d2, d3] }
  | _ => none }
def TopLinesWrongFalsely : Prop := topLinesRow.holds Tryd.pinned (OpenSpec.ofChange topLinesWrong)

/-- 'drovewaytop.TopBlocked': WHATEVER THE INPUT: true; the input reads as it did. -/
def topBlockedSpec : ChangeSpec := { name := "topBlocked", fn := fun _ => fun
  | [d1, d2] => { results := [.lit (.bool true)], args := [d1, d2] }
  | _ => none }
def topBlockedRow : OpenClaim := { program := "ytbdhceolchhnjaadoor", sum := "272cd3e2760d31881ab6a92ce5e03d36ec94c0c84c38a77b3da704c2a734ee46", func := "droveway/drovewaytop.TopBlocked", spec := "topBlocked", unfollowed := true, recurses := true, named := ["math/bits.deBruijn32tab", "math/bits.deBruijn64tab"], plainKeys := false, apart := false, laid := [("math/bits.deBruijn32tab", laid_math_bits_deBruijn32tab), ("math/bits.deBruijn64tab", laid_math_bits_deBruijn64tab)] }
def TopBlockedSaid : Prop := topBlockedRow.holds Tryd.pinned (OpenSpec.ofChange topBlockedSpec)

/-- ITS FALSE NEIGHBOUR: 'it returns false'. Refute it at one input. -/
def topBlockedWrong : ChangeSpec := { name := "topBlocked", fn := fun _ => fun
  | [d1, d2] => { results := [.lit (.bool false)], args := [d1, d2] }
  | _ => none }
def TopBlockedWrongFalsely : Prop := topBlockedRow.holds Tryd.pinned (OpenSpec.ofChange topBlockedWrong)

/- THE SECOND FORM. 'bulk': how many values and letters a reading holds, each counted each time it is reached (what is shared counts as often as it is met; a slice's spare places count too). A statement '..UptoSaid' is the law's where the arguments, and the package variables that the reading takes, are together of bulk at most 1048576: NARROWER than '..Said'. Prove '..Said' where nothing that the law and all that it calls make is longer than what came in: it says more and counts as full. Else prove '..UptoSaid'. A law counts once. -/
mutual
def uptoBulk {H : Type} : DataW H → Nat
  | .lit (.string bytes) => bytes.length + 1
  | .lit _ => 1
  | .nil => 1
  | .ptr d => uptoBulk d + 1
  | .slice elems spare => uptoBulkAll elems + uptoBulkAll spare + 1
  | .agg parts => uptoBulkAll parts + 1
  | .iface _ d => uptoBulk d + 1
  | .map entries => uptoBulkEntries entries + 1
  | .held _ => 1
def uptoBulkAll {H : Type} : List (DataW H) → Nat
  | [] => 0
  | d :: r => uptoBulk d + uptoBulkAll r
def uptoBulkEntries {H : Type} : List (Lit × DataW H) → Nat
  | [] => 0
  | x :: r => uptoBulkEntry x + uptoBulkEntries r
def uptoBulkEntry {H : Type} : Lit × DataW H → Nat
  | (.string bytes, d) => bytes.length + uptoBulk d + 1
  | (_, d) => uptoBulk d + 1
 end
def uptoSmall : (H : Type) → List (DataW H) → Bool := fun _ ds => decide (uptoBulkAll ds ≤ 1048576)
def OpenSpec.upto (s : _root_.Go.ChangeSpec) : _root_.Go.OpenSpec := { _root_.Go.OpenSpec.ofChange s with cond := some uptoSmall }

/-- 'drovewaylaw04.AmbushWins', WHERE WHAT IT READS IS OF BULK AT MOST 1048576: true; the input reads as it did. -/
def ambushWinsUptoRow : OpenClaim := { program := "ytbdhceolchhnjaadoor", sum := "272cd3e2760d31881ab6a92ce5e03d36ec94c0c84c38a77b3da704c2a734ee46", func := "droveway/drovewaylaw04.AmbushWins", spec := "ambushWins", unfollowed := true, recurses := true, named := ["math/bits.deBruijn32tab", "math/bits.deBruijn64tab"], plainKeys := false, apart := false, laid := [("math/bits.deBruijn32tab", laid_math_bits_deBruijn32tab), ("math/bits.deBruijn64tab", laid_math_bits_deBruijn64tab)], narrowed := true }
def AmbushWinsUptoSaid : Prop := ambushWinsUptoRow.holds Tryd.pinned (OpenSpec.upto ambushWinsSpec)

/-- 'drovewaylaw04.AmbushPairs', WHERE WHAT IT READS IS OF BULK AT MOST 1048576: true; the input reads as it did. -/
def ambushPairsUptoRow : OpenClaim := { program := "ytbdhceolchhnjaadoor", sum := "272cd3e2760d31881ab6a92ce5e03d36ec94c0c84c38a77b3da704c2a734ee46", func := "droveway/drovewaylaw04.AmbushPairs", spec := "ambushPairs", unfollowed := true, recurses := true, named := ["math/bits.deBruijn32tab", "math/bits.deBruijn64tab"], plainKeys := false, apart := false, laid := [("math/bits.deBruijn32tab", laid_math_bits_deBruijn32tab), ("math/bits.deBruijn64tab", laid_math_bits_deBruijn64tab)], narrowed := true }
def AmbushPairsUptoSaid : Prop := ambushPairsUptoRow.holds Tryd.pinned (OpenSpec.upto ambushPairsSpec)

/-- 'drovewaylaw04.AmbushGuards', WHERE WHAT IT READS IS OF BULK AT MOST 1048576: true; the input reads as it did. -/
def ambushGuardsUptoRow : OpenClaim := { program := "ytbdhceolchhnjaadoor", sum := "272cd3e2760d31881ab6a92ce5e03d36ec94c0c84c38a77b3da704c2a734ee46", func := "droveway/drovewaylaw04.AmbushGuards", spec := "ambushGuards", unfollowed := true, recurses := true, named := ["math/bits.deBruijn32tab", "math/bits.deBruijn64tab"], plainKeys := false, apart := false, laid := [("math/bits.deBruijn32tab", laid_math_bits_deBruijn32tab), ("math/bits.deBruijn64tab", laid_math_bits_deBruijn64tab)], narrowed := true }
def AmbushGuardsUptoSaid : Prop := ambushGuardsUptoRow.holds Tryd.pinned (OpenSpec.upto ambushGuardsSpec)

/-- 'drovewaylaw04.AmbushLines', WHERE WHAT IT READS IS OF BULK AT MOST 1048576: true; the input reads as it did. -/
def ambushLinesUptoRow : OpenClaim := { program := "ytbdhceolchhnjaadoor", sum := "272cd3e2760d31881ab6a92ce5e03d36ec94c0c84c38a77b3da704c2a734ee46", func := "droveway/drovewaylaw04.AmbushLines", spec := "ambushLines", unfollowed := true, recurses := true, named := ["math/bits.deBruijn32tab", "math/bits.deBruijn64tab"], plainKeys := false, apart := false, laid := [("math/bits.deBruijn32tab", laid_math_bits_deBruijn32tab), ("math/bits.deBruijn64tab", laid_math_bits_deBruijn64tab)], narrowed := true }
def AmbushLinesUptoSaid : Prop := ambushLinesUptoRow.holds Tryd.pinned (OpenSpec.upto ambushLinesSpec)

/-- 'drovewaylaw04.AmbushBegins', WHERE WHAT IT READS IS OF BULK AT MOST 1048576: true; the input reads as it did. -/
def ambushBeginsUptoRow : OpenClaim := { program := "ytbdhceolchhnjaadoor", sum := "272cd3e2760d31881ab6a92ce5e03d36ec94c0c84c38a77b3da704c2a734ee46", func := "droveway/drovewaylaw04.AmbushBegins", spec := "ambushBegins", unfollowed := true, recurses := true, named := ["math/bits.deBruijn32tab", "math/bits.deBruijn64tab"], plainKeys := false, apart := false, laid := [("math/bits.deBruijn32tab", laid_math_bits_deBruijn32tab), ("math/bits.deBruijn64tab", laid_math_bits_deBruijn64tab)], narrowed := true }
def AmbushBeginsUptoSaid : Prop := ambushBeginsUptoRow.holds Tryd.pinned (OpenSpec.upto ambushBeginsSpec)

/-- 'drovewaytop.TopLines', WHERE WHAT IT READS IS OF BULK AT MOST 1048576: true; the input reads as it did. -/
def topLinesUptoRow : OpenClaim := { program := "ytbdhceolchhnjaadoor", sum := "272cd3e2760d31881ab6a92ce5e03d36ec94c0c84c38a77b3da704c2a734ee46", func := "droveway/drovewaytop.TopLines", spec := "topLines", unfollowed := true, recurses := true, named := ["math/bits.deBruijn32tab", "math/bits.deBruijn64tab"], plainKeys := false, apart := false, laid := [("math/bits.deBruijn32tab", laid_math_bits_deBruijn32tab), ("math/bits.deBruijn64tab", laid_math_bits_deBruijn64tab)], narrowed := true }
def TopLinesUptoSaid : Prop := topLinesUptoRow.holds Tryd.pinned (OpenSpec.upto topLinesSpec)

/-- 'drovewaytop.TopBlocked', WHERE WHAT IT READS IS OF BULK AT MOST 1048576: true; the input reads as it did. -/
def topBlockedUptoRow : OpenClaim := { program := "ytbdhceolchhnjaadoor", sum := "272cd3e2760d31881ab6a92ce5e03d36ec94c0c84c38a77b3da704c2a734ee46", func := "droveway/drovewaytop.TopBlocked", spec := "topBlocked", unfollowed := true, recurses := true, named := ["math/bits.deBruijn32tab", "math/bits.deBruijn64tab"], plainKeys := false, apart := false, laid := [("math/bits.deBruijn32tab", laid_math_bits_deBruijn32tab), ("math/bits.deBruijn64tab", laid_math_bits_deBruijn64tab)], narrowed := true }
def TopBlockedUptoSaid : Prop := topBlockedUptoRow.holds Tryd.pinned (OpenSpec.upto topBlockedSpec)

end Rows
end Go.Proofs.YtbdhceolchhnjaaDoor
