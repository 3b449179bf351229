/-
  NARROWER THAN 'FOR EVERY INPUT', by the rows' own cells (each row's printed sentence says how): BreedTrees: laid · BreedShows: laid · BreedBuilds: laid · BreedCloses: laid · BreedKeeps: laid · BreedAho: laid · BreedBack: laid · BreedClosure: laid · BreedImplied: laid · BreedKept: laid · BreedCounted: laid.
  DERIVED. THE GIVEN ROWS OF THIS SEAT. 11 by the template 'for every input the law returns true; each argument reads behind the call as it read before'; 0 by the template 'total and deterministic' (their statements: YtmejahoodeeijaaGreatDoorTotals.lean).
  GIVEN WITH THE SEED: the statements are not yours to turn. If you find one false, say at which input.
  Laid BY PROGRAM, IN A SANDBOX (cutbox-rows.mjs): the forced cells as the released guide's own fill.sh prints them over the translation 2bfd99d2f0edec7f… (all of the seat's roots in one cut). By AI agents, Wed Nov 11 2026. No macro, syntax, notation, axiom, sorry.
-/
import Derived.Test.YtmejahoodeeijaaGreatDoorChecked
import GoSem.Claim
import GoSem.ClaimJoined
import GoSem.ClaimMapViews
import Derived.JoinedTies
import Derived.KernelRfl
namespace Go.Proofs.YtmejahoodeeijaaGreatDoor
/- THE CELL 'sum', in the pinned program and in every row, IS THE sha256 OF THE DUMP (.gsa) THAT YtmejahoodeeijaaGreatDoorProg.lean LOADS. Nothing in Lean hashes anything: it is a label: what it is worth is what the hold of that sum in a sandbox is worth. -/
noncomputable def Tryz.pinned : Pinned := { name := "ytmejahoodeeijaagreatdoor", sum := "2bfd99d2f0edec7f74706b73354bdd8d7f5967dd57c3a33f9aca562cddb4e634", checked := Tryz.checked }
namespace Rows
def none {H : Type} : Left H := { results := [], args := [] }

/- WHAT THE LISTED PACKAGE-LEVEL VARIABLES READ AS WHEN THE CALL BEGINS. Each datum BY PROGRAM (the guide's laid-datum.mjs) off the statement by which the dump's own 'gosem.cut.vars' lays the variable. In a bare row this is a premise. The card (YtmejahoodeeijaaGreatDoorCards.lean) ties it to the program's text. -/
def laid_math_bits_deBruijn32tab {H : Type} : DataW H := .agg [.lit (.int .u8 0), .lit (.int .u8 1), .lit (.int .u8 28), .lit (.int .u8 2), .lit (.int .u8 29), .lit (.int .u8 14), .lit (.int .u8 24), .lit (.int .u8 3), .lit (.int .u8 30), .lit (.int .u8 22), .lit (.int .u8 20), .lit (.int .u8 15), .lit (.int .u8 25), .lit (.int .u8 17), .lit (.int .u8 4), .lit (.int .u8 8), .lit (.int .u8 31), .lit (.int .u8 27), .lit (.int .u8 13), .lit (.int .u8 23), .lit (.int .u8 21), .lit (.int .u8 19), .lit (.int .u8 16), .lit (.int .u8 7), .lit (.int .u8 26), .lit (.int .u8 12), .lit (.int .u8 18), .lit (.int .u8 6), .lit (.int .u8 11), .lit (.int .u8 5), .lit (.int .u8 10), .lit (.int .u8 9)]
def laid_math_bits_deBruijn64tab {H : Type} : DataW H := .agg [.lit (.int .u8 0), .lit (.int .u8 1), .lit (.int .u8 56), .lit (.int .u8 2), .lit (.int .u8 57), .lit (.int .u8 49), .lit (.int .u8 28), .lit (.int .u8 3), .lit (.int .u8 61), .lit (.int .u8 58), .lit (.int .u8 42), .lit (.int .u8 50), .lit (.int .u8 38), .lit (.int .u8 29), .lit (.int .u8 17), .lit (.int .u8 4), .lit (.int .u8 62), .lit (.int .u8 47), .lit (.int .u8 59), .lit (.int .u8 36), .lit (.int .u8 45), .lit (.int .u8 43), .lit (.int .u8 51), .lit (.int .u8 22), .lit (.int .u8 53), .lit (.int .u8 39), .lit (.int .u8 33), .lit (.int .u8 30), .lit (.int .u8 24), .lit (.int .u8 18), .lit (.int .u8 12), .lit (.int .u8 5), .lit (.int .u8 63), .lit (.int .u8 55), .lit (.int .u8 48), .lit (.int .u8 27), .lit (.int .u8 60), .lit (.int .u8 41), .lit (.int .u8 37), .lit (.int .u8 16), .lit (.int .u8 46), .lit (.int .u8 35), .lit (.int .u8 44), .lit (.int .u8 21), .lit (.int .u8 52), .lit (.int .u8 32), .lit (.int .u8 23), .lit (.int .u8 11), .lit (.int .u8 54), .lit (.int .u8 26), .lit (.int .u8 40), .lit (.int .u8 15), .lit (.int .u8 34), .lit (.int .u8 20), .lit (.int .u8 31), .lit (.int .u8 10), .lit (.int .u8 25), .lit (.int .u8 14), .lit (.int .u8 19), .lit (.int .u8 9), .lit (.int .u8 13), .lit (.int .u8 8), .lit (.int .u8 7), .lit (.int .u8 6)]

/-- 'drovewaylaw05.BreedTrees': WHATEVER THE INPUT: true; the input reads as it did. -/
def breedTreesSpec : ChangeSpec := { name := "breedTrees", fn := fun _ => fun
  | [d1, d2, d3, d4] => { results := [.lit (.bool true)], args := [d1, d2, d3, d4] }
  | _ => none }
def breedTreesRow : OpenClaim := { program := "ytmejahoodeeijaagreatdoor", sum := "2bfd99d2f0edec7f74706b73354bdd8d7f5967dd57c3a33f9aca562cddb4e634", func := "droveway/drovewaylaw05.BreedTrees", spec := "breedTrees", unfollowed := true, recurses := true, named := ["math/bits.deBruijn32tab", "math/bits.deBruijn64tab"], apart := false, laid := [("math/bits.deBruijn32tab", laid_math_bits_deBruijn32tab), ("math/bits.deBruijn64tab", laid_math_bits_deBruijn64tab)] }
def BreedTreesSaid : Prop := breedTreesRow.holds Tryz.pinned (OpenSpec.ofChange breedTreesSpec)

/-- ITS FALSE NEIGHBOUR: 'it returns false'. Refute it at one input. -/
def breedTreesWrong : ChangeSpec := { name := "breedTrees", fn := fun _ => fun
  | [d1, d2, d3, d4] => { results := [.lit (.bool false)], args := [d1, d2, d3, d4] }
  | _ => none }
def BreedTreesWrongFalsely : Prop := breedTreesRow.holds Tryz.pinned (OpenSpec.ofChange breedTreesWrong)

/-- 'drovewaylaw05.BreedShows': WHATEVER THE INPUT: true; the input reads as it did. -/
def breedShowsSpec : ChangeSpec := { name := "breedShows", fn := fun _ => fun
  | [d1, d2, d3] => { results := [.lit (.bool true)], args := [d1, d2, d3] }
  | _ => none }
def breedShowsRow : OpenClaim := { program := "ytmejahoodeeijaagreatdoor", sum := "2bfd99d2f0edec7f74706b73354bdd8d7f5967dd57c3a33f9aca562cddb4e634", func := "droveway/drovewaylaw05.BreedShows", spec := "breedShows", unfollowed := true, recurses := true, named := ["math/bits.deBruijn32tab", "math/bits.deBruijn64tab"], apart := false, laid := [("math/bits.deBruijn32tab", laid_math_bits_deBruijn32tab), ("math/bits.deBruijn64tab", laid_math_bits_deBruijn64tab)] }
def BreedShowsSaid : Prop := breedShowsRow.holds Tryz.pinned (OpenSpec.ofChange breedShowsSpec)

/-- ITS FALSE NEIGHBOUR: 'it returns false'. Refute it at one input. -/
def breedShowsWrong : ChangeSpec := { name := "breedShows", fn := fun _ => fun
  | [d1, d2, d3] => { results := [.lit (.bool false)], args := [d1, d2, d3] }
  | _ => none }
def BreedShowsWrongFalsely : Prop := breedShowsRow.holds Tryz.pinned (OpenSpec.ofChange breedShowsWrong)

/-- 'drovewaylaw05.BreedBuilds': WHATEVER THE INPUT: true; the input reads as it did. -/
def breedBuildsSpec : ChangeSpec := { name := "breedBuilds", fn := fun _ => fun
  | [d1, d2, d3] => { results := [.lit (.bool true)], args := [d1, d2, d3] }
  | _ => none }
def breedBuildsRow : OpenClaim := { program := "ytmejahoodeeijaagreatdoor", sum := "2bfd99d2f0edec7f74706b73354bdd8d7f5967dd57c3a33f9aca562cddb4e634", func := "droveway/drovewaylaw05.BreedBuilds", spec := "breedBuilds", unfollowed := true, recurses := true, named := ["math/bits.deBruijn32tab", "math/bits.deBruijn64tab"], apart := false, laid := [("math/bits.deBruijn32tab", laid_math_bits_deBruijn32tab), ("math/bits.deBruijn64tab", laid_math_bits_deBruijn64tab)] }
def BreedBuildsSaid : Prop := breedBuildsRow.holds Tryz.pinned (OpenSpec.ofChange breedBuildsSpec)

/-- ITS FALSE NEIGHBOUR: 'it returns false'. Refute it at one input. -/
def breedBuildsWrong : ChangeSpec := { name := "breedBuilds", fn := fun _ => fun
  | [d1, d2, d3] => { results := [.lit (.bool false)], args := [d1, d2, d3] }
  | _ => none }
def BreedBuildsWrongFalsely : Prop := breedBuildsRow.holds Tryz.pinned (OpenSpec.ofChange breedBuildsWrong)

/-- 'drovewaylaw05.BreedCloses': WHATEVER THE INPUT: true; the input reads as it did. -/
def breedClosesSpec : ChangeSpec := { name := "breedCloses", fn := fun _ => fun
  | [d1, d2] => { results := [.lit (.bool true)], args := [d1, d2] }
  | _ => none }
def breedClosesRow : OpenClaim := { program := "ytmejahoodeeijaagreatdoor", sum := "2bfd99d2f0edec7f74706b73354bdd8d7f5967dd57c3a33f9aca562cddb4e634", func := "droveway/drovewaylaw05.BreedCloses", spec := "breedCloses", unfollowed := true, recurses := true, named := ["math/bits.deBruijn32tab", "math/bits.deBruijn64tab"], apart := false, laid := [("math/bits.deBruijn32tab", laid_math_bits_deBruijn32tab), ("math/bits.deBruijn64tab", laid_math_bits_deBruijn64tab)] }
def BreedClosesSaid : Prop := breedClosesRow.holds Tryz.pinned (OpenSpec.ofChange breedClosesSpec)

/-- ITS FALSE NEIGHBOUR: 'it returns false'. Refute it at one input. -/
def breedClosesWrong : ChangeSpec := { name := "breedCloses", fn := fun _ => fun
  | [d1, d2] => { results := [.lit (.bool false)], args := [d1, d2] }
  | _ => none }
def BreedClosesWrongFalsely : Prop := breedClosesRow.holds Tryz.pinned (OpenSpec.ofChange breedClosesWrong)

/-- 'drovewaylaw05.BreedKeeps': WHATEVER THE INPUT: true; the input reads as it did. -/
def breedKeepsSpec : ChangeSpec := { name := "breedKeeps", fn := fun _ => fun
  | [d1, d2, d3, d4] => { results := [.lit (.bool true)], args := [d1, d2, d3, d4] }
  | _ => none }
def breedKeepsRow : OpenClaim := { program := "ytmejahoodeeijaagreatdoor", sum := "2bfd99d2f0edec7f74706b73354bdd8d7f5967dd57c3a33f9aca562cddb4e634", func := "droveway/drovewaylaw05.BreedKeeps", spec := "breedKeeps", unfollowed := true, recurses := true, named := ["math/bits.deBruijn32tab", "math/bits.deBruijn64tab"], apart := false, laid := [("math/bits.deBruijn32tab", laid_math_bits_deBruijn32tab), ("math/bits.deBruijn64tab", laid_math_bits_deBruijn64tab)] }
def BreedKeepsSaid : Prop := breedKeepsRow.holds Tryz.pinned (OpenSpec.ofChange breedKeepsSpec)

/-- ITS FALSE NEIGHBOUR: 'it returns false'. Refute it at one input. -/
def breedKeepsWrong : ChangeSpec := { name := "breedKeeps", fn := fun _ => fun
  | [d1, d2, d3, d4] => { results := [.lit (.bool false)], args := [d1, d2, d3, d4] }
  | _ => none }
def BreedKeepsWrongFalsely : Prop := breedKeepsRow.holds Tryz.pinned (OpenSpec.ofChange breedKeepsWrong)

/-- 'drovewaylaw05.BreedAho': WHATEVER THE INPUT: true; the input reads as it did. -/
def breedAhoSpec : ChangeSpec := { name := "breedAho", fn := fun _ => fun
  | [d1, d2, d3] => { results := [.lit (.bool true)], args := [d1, d2, d3] }
  | _ => none }
def breedAhoRow : OpenClaim := { program := "ytmejahoodeeijaagreatdoor", sum := "2bfd99d2f0edec7f74706b73354bdd8d7f5967dd57c3a33f9aca562cddb4e634", func := "droveway/drovewaylaw05.BreedAho", spec := "breedAho", unfollowed := true, recurses := true, named := ["math/bits.deBruijn32tab", "math/bits.deBruijn64tab"], apart := false, laid := [("math/bits.deBruijn32tab", laid_math_bits_deBruijn32tab), ("math/bits.deBruijn64tab", laid_math_bits_deBruijn64tab)] }
def BreedAhoSaid : Prop := breedAhoRow.holds Tryz.pinned (OpenSpec.ofChange breedAhoSpec)

/-- ITS FALSE NEIGHBOUR: 'it returns false'. Refute it at one input. -/
def breedAhoWrong : ChangeSpec := { name := "breedAho", fn := fun _ => fun
  | [d1, d2, d3] => { results := [.lit (.bool false)], args := [d1, d2, d3] }
  | _ => none }
def BreedAhoWrongFalsely : Prop := breedAhoRow.holds Tryz.pinned (OpenSpec.ofChange breedAhoWrong)

/-- 'drovewaylaw05.BreedBack': WHATEVER THE INPUT: true; the input reads as it did. -/
def breedBackSpec : ChangeSpec := { name := "breedBack", fn := fun _ => fun
  | [d1, d2, d3] => { results := [.lit (.bool true)], args := [d1, d2, d3] }
  | _ => none }
def breedBackRow : OpenClaim := { program := "ytmejahoodeeijaagreatdoor", sum := "2bfd99d2f0edec7f74706b73354bdd8d7f5967dd57c3a33f9aca562cddb4e634", func := "droveway/drovewaylaw05.BreedBack", spec := "breedBack", unfollowed := true, recurses := true, named := ["math/bits.deBruijn32tab", "math/bits.deBruijn64tab"], apart := false, laid := [("math/bits.deBruijn32tab", laid_math_bits_deBruijn32tab), ("math/bits.deBruijn64tab", laid_math_bits_deBruijn64tab)] }
def BreedBackSaid : Prop := breedBackRow.holds Tryz.pinned (OpenSpec.ofChange breedBackSpec)

/-- ITS FALSE NEIGHBOUR: 'it returns false'. Refute it at one input. -/
def breedBackWrong : ChangeSpec := { name := "breedBack", fn := fun _ => fun
  | [d1, d2, d3] => { results := [.lit (.bool false)], args := [d1, d2, d3] }
  | _ => none }
def BreedBackWrongFalsely : Prop := breedBackRow.holds Tryz.pinned (OpenSpec.ofChange breedBackWrong)

/-- 'drovewaylaw05.BreedClosure': WHATEVER THE INPUT: true; the input reads as it did. -/
def breedClosureSpec : ChangeSpec := { name := "breedClosure", fn := fun _ => fun
  | [d1, d2, d3] => { results := [.lit (.bool true)], args := [d1, d2, d3] }
  | _ => none }
def breedClosureRow : OpenClaim := { program := "ytmejahoodeeijaagreatdoor", sum := "2bfd99d2f0edec7f74706b73354bdd8d7f5967dd57c3a33f9aca562cddb4e634", func := "droveway/drovewaylaw05.BreedClosure", spec := "breedClosure", unfollowed := true, recurses := true, named := ["math/bits.deBruijn32tab", "math/bits.deBruijn64tab"], apart := false, laid := [("math/bits.deBruijn32tab", laid_math_bits_deBruijn32tab), ("math/bits.deBruijn64tab", laid_math_bits_deBruijn64tab)] }
def BreedClosureSaid : Prop := breedClosureRow.holds Tryz.pinned (OpenSpec.ofChange breedClosureSpec)

/-- ITS FALSE NEIGHBOUR: 'it returns false'. Refute it at one input. -/
def breedClosureWrong : ChangeSpec := { name := "breedClosure", fn := fun _ => fun
  | [d1, d2, d3] => { results := [.lit (.bool false)], args := [d1, d2, d3] }
  | _ => none }
def BreedClosureWrongFalsely : Prop := breedClosureRow.holds Tryz.pinned (OpenSpec.ofChange breedClosureWrong)

/-- 'drovewaylaw05.BreedImplied': WHATEVER THE INPUT: true; the input reads as it did. -/
def breedImpliedSpec : ChangeSpec := { name := "breedImplied", fn := fun _ => fun
  | [d1, d2, d3] => { results := [.lit (.bool true)], args := [d1, d2, d3] }
  | _ => none }
def breedImpliedRow : OpenClaim := { program := "ytmejahoodeeijaagreatdoor", sum := "2bfd99d2f0edec7f74706b73354bdd8d7f5967dd57c3a33f9aca562cddb4e634", func := "droveway/drovewaylaw05.BreedImplied", spec := "breedImplied", unfollowed := true, recurses := true, named := ["math/bits.deBruijn32tab", "math/bits.deBruijn64tab"], apart := false, laid := [("math/bits.deBruijn32tab", laid_math_bits_deBruijn32tab), ("math/bits.deBruijn64tab", laid_math_bits_deBruijn64tab)] }
def BreedImpliedSaid : Prop := breedImpliedRow.holds Tryz.pinned (OpenSpec.ofChange breedImpliedSpec)

/-- ITS FALSE NEIGHBOUR: 'it returns false'. Refute it at one input. -/
def breedImpliedWrong : ChangeSpec := { name := "breedImplied", fn := fun _ => fun
  | [d1, d2, d3] => { results := [.lit (.bool false)], args := [d1, d2, d3] }
  | _ => none }
def BreedImpliedWrongFalsely : Prop := breedImpliedRow.holds Tryz.pinned (OpenSpec.ofChange breedImpliedWrong)

/-- 'drovewaylaw05.BreedKept': WHATEVER THE INPUT: true; the input reads as it did. -/
def breedKeptSpec : ChangeSpec := { name := "breedKept", fn := fun _ => fun
  | [d1, d2, d3, d4] => { results := [.lit (.bool true)], args := [d1, d2, d3, d4] }
  | _ => none }
def breedKeptRow : OpenClaim := { program := "ytmejahoodeeijaagreatdoor", sum := "2bfd99d2f0edec7f74706b73354bdd8d7f5967dd57c3a33f9aca562cddb4e634", func := "droveway/drovewaylaw05.BreedKept", spec := "breedKept", unfollowed := true, recurses := true, named := ["math/bits.deBruijn32tab", "math/bits.deBruijn64tab"], apart := false, laid := [("math/bits.deBruijn32tab", laid_math_bits_deBruijn32tab), ("math/bits.deBruijn64tab", laid_math_bits_deBruijn64tab)] }
def BreedKeptSaid : Prop := breedKeptRow.holds Tryz.pinned (OpenSpec.ofChange breedKeptSpec)

/-- ITS FALSE NEIGHBOUR: 'it returns false'. Refute it at one input. -/
def breedKeptWrong : ChangeSpec := { name := "breedKept", fn := fun _ => fun
  | [d1, d2, d3, d4] => { results := [.lit (.bool false)], args := [d1, d2, d3, d4] }
  | _ => none }
def BreedKeptWrongFalsely : Prop := breedKeptRow.holds Tryz.pinned (OpenSpec.ofChange breedKeptWrong)

/-- 'drovewaylaw05.BreedCounted': WHATEVER THE INPUT: true; the input reads as it did. -/
def breedCountedSpec : ChangeSpec := { name := "breedCounted", fn := fun _ => fun
  | [d] => { results := [.lit (.bool true)], args := [d] }
  | _ => none }
def breedCountedRow : OpenClaim := { program := "ytmejahoodeeijaagreatdoor", sum := "2bfd99d2f0edec7f74706b73354bdd8d7f5967dd57c3a33f9aca562cddb4e634", func := "droveway/drovewaylaw05.BreedCounted", spec := "breedCounted", unfollowed := true, recurses := true, named := ["math/bits.deBruijn32tab", "math/bits.deBruijn64tab"], apart := false, laid := [("math/bits.deBruijn32tab", laid_math_bits_deBruijn32tab), ("math/bits.deBruijn64tab", laid_math_bits_deBruijn64tab)] }
def BreedCountedSaid : Prop := breedCountedRow.holds Tryz.pinned (OpenSpec.ofChange breedCountedSpec)

/-- ITS FALSE NEIGHBOUR: 'it returns false'. Refute it at one input. -/
def breedCountedWrong : ChangeSpec := { name := "breedCounted", fn := fun _ => fun
  | [d] => { results := [.lit (.bool false)], args := [d] }
  | _ => none }
def BreedCountedWrongFalsely : Prop := breedCountedRow.holds Tryz.pinned (OpenSpec.ofChange breedCountedWrong)

/- THE SECOND FORM. 'bulk': how many values and letters a reading holds, each counted each time it is reached (what is shared counts as often as it is met; a slice's spare places count too). A statement '..UptoSaid' is the law's where the arguments, and the package variables that the reading takes, are together of bulk at most 1048576: NARROWER than '..Said'. Prove '..Said' where nothing that the law and all that it calls make is longer than what came in: it says more and counts as full. Else prove '..UptoSaid'. A law counts once. -/
mutual
def uptoBulk {H : Type} : DataW H → Nat
  | .lit (.string bytes) => bytes.length + 1
  | .lit _ => 1
  | .nil => 1
  | .ptr d => uptoBulk d + 1
  | .slice elems spare => uptoBulkAll elems + uptoBulkAll spare + 1
  | .agg parts => uptoBulkAll parts + 1
  | .iface _ d => uptoBulk d + 1
  | .map entries => uptoBulkEntries entries + 1
  | .held _ => 1
def uptoBulkAll {H : Type} : List (DataW H) → Nat
  | [] => 0
  | d :: r => uptoBulk d + uptoBulkAll r
def uptoBulkEntries {H : Type} : List (Lit × DataW H) → Nat
  | [] => 0
  | x :: r => uptoBulkEntry x + uptoBulkEntries r
def uptoBulkEntry {H : Type} : Lit × DataW H → Nat
  | (.string bytes, d) => bytes.length + uptoBulk d + 1
  | (_, d) => uptoBulk d + 1
 end
def uptoSmall : (H : Type) → List (DataW H) → Bool := fun _ ds => decide (uptoBulkAll ds ≤ 1048576)
def OpenSpec.upto (s : _root_.Go.ChangeSpec) : _root_.Go.OpenSpec := { _root_.Go.OpenSpec.ofChange s with cond := some uptoSmall }

/-- 'drovewaylaw05.BreedTrees', WHERE WHAT IT READS IS OF BULK AT MOST 1048576: true; the input reads as it did. -/
def breedTreesUptoRow : OpenClaim := { program := "ytmejahoodeeijaagreatdoor", sum := "2bfd99d2f0edec7f74706b73354bdd8d7f5967dd57c3a33f9aca562cddb4e634", func := "droveway/drovewaylaw05.BreedTrees", spec := "breedTrees", unfollowed := true, recurses := true, named := ["math/bits.deBruijn32tab", "math/bits.deBruijn64tab"], apart := false, laid := [("math/bits.deBruijn32tab", laid_math_bits_deBruijn32tab), ("math/bits.deBruijn64tab", laid_math_bits_deBruijn64tab)], narrowed := true }
def BreedTreesUptoSaid : Prop := breedTreesUptoRow.holds Tryz.pinned (OpenSpec.upto breedTreesSpec)

/-- 'drovewaylaw05.BreedShows', WHERE WHAT IT READS IS OF BULK AT MOST 1048576: true; the input reads as it did. -/
def breedShowsUptoRow : OpenClaim := { program := "ytmejahoodeeijaagreatdoor", sum := "2bfd99d2f0edec7f74706b73354bdd8d7f5967dd57c3a33f9aca562cddb4e634", func := "droveway/drovewaylaw05.BreedShows", spec := "breedShows", unfollowed := true, recurses := true, named := ["math/bits.deBruijn32tab", "math/bits.deBruijn64tab"], apart := false, laid := [("math/bits.deBruijn32tab", laid_math_bits_deBruijn32tab), ("math/bits.deBruijn64tab", laid_math_bits_deBruijn64tab)], narrowed := true }
def BreedShowsUptoSaid : Prop := breedShowsUptoRow.holds Tryz.pinned (OpenSpec.upto breedShowsSpec)

/-- 'drovewaylaw05.BreedBuilds', WHERE WHAT IT READS IS OF BULK AT MOST 1048576: true; the input reads as it did. -/
def breedBuildsUptoRow : OpenClaim := { program := "ytmejahoodeeijaagreatdoor", sum := "2bfd99d2f0edec7f74706b73354bdd8d7f5967dd57c3a33f9aca562cddb4e634", func := "droveway/drovewaylaw05.BreedBuilds", spec := "breedBuilds", unfollowed := true, recurses := true, named := ["math/bits.deBruijn32tab", "math/bits.deBruijn64tab"], apart := false, laid := [("math/bits.deBruijn32tab", laid_math_bits_deBruijn32tab), ("math/bits.deBruijn64tab", laid_math_bits_deBruijn64tab)], narrowed := true }
def BreedBuildsUptoSaid : Prop := breedBuildsUptoRow.holds Tryz.pinned (OpenSpec.upto breedBuildsSpec)

/-- 'drovewaylaw05.BreedCloses', WHERE WHAT IT READS IS OF BULK AT MOST 1048576: true; the input reads as it did. -/
def breedClosesUptoRow : OpenClaim := { program := "ytmejahoodeeijaagreatdoor", sum := "2bfd99d2f0edec7f74706b73354bdd8d7f5967dd57c3a33f9aca562cddb4e634", func := "droveway/drovewaylaw05.BreedCloses", spec := "breedCloses", unfollowed := true, recurses := true, named := ["math/bits.deBruijn32tab", "math/bits.deBruijn64tab"], apart := false, laid := [("math/bits.deBruijn32tab", laid_math_bits_deBruijn32tab), ("math/bits.deBruijn64tab", laid_math_bits_deBruijn64tab)], narrowed := true }
def BreedClosesUptoSaid : Prop := breedClosesUptoRow.holds Tryz.pinned (OpenSpec.upto breedClosesSpec)

/-- 'drovewaylaw05.BreedKeeps', WHERE WHAT IT READS IS OF BULK AT MOST 1048576: true; the input reads as it did. -/
def breedKeepsUptoRow : OpenClaim := { program := "ytmejahoodeeijaagreatdoor", sum := "2bfd99d2f0edec7f74706b73354bdd8d7f5967dd57c3a33f9aca562cddb4e634", func := "droveway/drovewaylaw05.BreedKeeps", spec := "breedKeeps", unfollowed := true, recurses := true, named := ["math/bits.deBruijn32tab", "math/bits.deBruijn64tab"], apart := false, laid := [("math/bits.deBruijn32tab", laid_math_bits_deBruijn32tab), ("math/bits.deBruijn64tab", laid_math_bits_deBruijn64tab)], narrowed := true }
def BreedKeepsUptoSaid : Prop := breedKeepsUptoRow.holds Tryz.pinned (OpenSpec.upto breedKeepsSpec)

/-- 'drovewaylaw05.BreedAho', WHERE WHAT IT READS IS OF BULK AT MOST 1048576: true; the input reads as it did. -/
def breedAhoUptoRow : OpenClaim := { program := "ytmejahoodeeijaagreatdoor", sum := "2bfd99d2f0edec7f74706b73354bdd8d7f5967dd57c3a33f9aca562cddb4e634", func := "droveway/drovewaylaw05.BreedAho", spec := "breedAho", unfollowed := true, recurses := true, named := ["math/bits.deBruijn32tab", "math/bits.deBruijn64tab"], apart := false, laid := [("math/bits.deBruijn32tab", laid_math_bits_deBruijn32tab), ("math/bits.deBruijn64tab", laid_math_bits_deBruijn64tab)], narrowed := true }
def BreedAhoUptoSaid : Prop := breedAhoUptoRow.holds Tryz.pinned (OpenSpec.upto breedAhoSpec)

/-- 'drovewaylaw05.BreedBack', WHERE WHAT IT READS IS OF BULK AT MOST 1048576: true; the input reads as it did. -/
def breedBackUptoRow : OpenClaim := { program := "ytmejahoodeeijaagreatdoor", sum := "2bfd99d2f0edec7f74706b73354bdd8d7f5967dd57c3a33f9aca562cddb4e634", func := "droveway/drovewaylaw05.BreedBack", spec := "breedBack", unfollowed := true, recurses := true, named := ["math/bits.deBruijn32tab", "math/bits.deBruijn64tab"], apart := false, laid := [("math/bits.deBruijn32tab", laid_math_bits_deBruijn32tab), ("math/bits.deBruijn64tab", laid_math_bits_deBruijn64tab)], narrowed := true }
def BreedBackUptoSaid : Prop := breedBackUptoRow.holds Tryz.pinned (OpenSpec.upto breedBackSpec)

/-- 'drovewaylaw05.BreedClosure', WHERE WHAT IT READS IS OF BULK AT MOST 1048576: true; the input reads as it did. -/
def breedClosureUptoRow : OpenClaim := { program := "ytmejahoodeeijaagreatdoor", sum := "2bfd99d2f0edec7f74706b73354bdd8d7f5967dd57c3a33f9aca562cddb4e634", func := "droveway/drovewaylaw05.BreedClosure", spec := "breedClosure", unfollowed := true, recurses := true, named := ["math/bits.deBruijn32tab", "math/bits.deBruijn64tab"], apart := false, laid := [("math/bits.deBruijn32tab", laid_math_bits_deBruijn32tab), ("math/bits.deBruijn64tab", laid_math_bits_deBruijn64tab)], narrowed := true }
def BreedClosureUptoSaid : Prop := breedClosureUptoRow.holds Tryz.pinned (OpenSpec.upto breedClosureSpec)

/-- 'drovewaylaw05.BreedImplied', WHERE WHAT IT READS IS OF BULK AT MOST 1048576: true; the input reads as it did. -/
def breedImpliedUptoRow : OpenClaim := { program := "ytmejahoodeeijaagreatdoor", sum := "2bfd99d2f0edec7f74706b73354bdd8d7f5967dd57c3a33f9aca562cddb4e634", func := "droveway/drovewaylaw05.BreedImplied", spec := "breedImplied", unfollowed := true, recurses := true, named := ["math/bits.deBruijn32tab", "math/bits.deBruijn64tab"], apart := false, laid := [("math/bits.deBruijn32tab", laid_math_bits_deBruijn32tab), ("math/bits.deBruijn64tab", laid_math_bits_deBruijn64tab)], narrowed := true }
def BreedImpliedUptoSaid : Prop := breedImpliedUptoRow.holds Tryz.pinned (OpenSpec.upto breedImpliedSpec)

/-- 'drovewaylaw05.BreedKept', WHERE WHAT IT READS IS OF BULK AT MOST 1048576: true; the input reads as it did. -/
def breedKeptUptoRow : OpenClaim := { program := "ytmejahoodeeijaagreatdoor", sum := "2bfd99d2f0edec7f74706b73354bdd8d7f5967dd57c3a33f9aca562cddb4e634", func := "droveway/drovewaylaw05.BreedKept", spec := "breedKept", unfollowed := true, recurses := true, named := ["math/bits.deBruijn32tab", "math/bits.deBruijn64tab"], apart := false, laid := [("math/bits.deBruijn32tab", laid_math_bits_deBruijn32tab), ("math/bits.deBruijn64tab", laid_math_bits_deBruijn64tab)], narrowed := true }
def BreedKeptUptoSaid : Prop := breedKeptUptoRow.holds Tryz.pinned (OpenSpec.upto breedKeptSpec)

/-- 'drovewaylaw05.BreedCounted', WHERE WHAT IT READS IS OF BULK AT MOST 1048576: true; the input reads as it did. -/
def breedCountedUptoRow : OpenClaim := { program := "ytmejahoodeeijaagreatdoor", sum := "2bfd99d2f0edec7f74706b73354bdd8d7f5967dd57c3a33f9aca562cddb4e634", func := "droveway/drovewaylaw05.BreedCounted", spec := "breedCounted", unfollowed := true, recurses := true, named := ["math/bits.deBruijn32tab", "math/bits.deBruijn64tab"], apart := false, laid := [("math/bits.deBruijn32tab", laid_math_bits_deBruijn32tab), ("math/bits.deBruijn64tab", laid_math_bits_deBruijn64tab)], narrowed := true }
def BreedCountedUptoSaid : Prop := breedCountedUptoRow.holds Tryz.pinned (OpenSpec.upto breedCountedSpec)

end Rows
end Go.Proofs.YtmejahoodeeijaaGreatDoor
