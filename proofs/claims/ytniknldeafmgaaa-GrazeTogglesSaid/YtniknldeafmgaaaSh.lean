/- Layer 8: strings.Repeat, strings.Count and strings.Builder, by the library's contracts: this program holds the functions that the contracts speak of. -/
import Derived.Test.YtniknldeafmgaaaWa
import Derived.Shelf.Strings.Repeat
import Derived.Shelf.Strings.Count
import Derived.Shelf.Strings.Builder1
namespace Go.Proofs.Ytniknldeafmgaaa
set_option linter.unusedSimpArgs false
set_option linter.unusedVariables false
open Go Go.RowKit Go.Shelf

def renG : Go.Shelf.Ren := ⟨fun | 99 => 84 | 105 => 78 | 138 => 81 | 143 => 89 | 165 => 85 | 166 => 77 | 167 => 79 | 169 => 80 | 170 => 86 | 195 => 87 | 206 => 93 | 212 => 83 | 217 => 97 | 218 => 88 | 219 => 95 | 224 => 99 | 225 => 98 | 240 => 82 | 241 => 94 | 263 => 91 | 264 => 92 | 266 => 101 | 267 => 100 | 276 => 90 | 277 => 96 | 314 => 102 | n => n, fun | 0 => 0 | 3 => 3 | 4 => 4 | 5 => 5 | 9 => 9 | 20 => 20 | 37 => 50 | 46 => 99 | 51 => 110 | 53 => 113 | 70 => 89 | 72 => 91 | 75 => 93 | 76 => 94 | 109 => 100 | 127 => 105 | 146 => 111 | 148 => 114 | 164 => 108 | 80 => 82 | n => n, fun | 1 => 0 | n => n⟩
theorem lays105 : Lays.n105 Try.prog renG := {
  mixed := by kernel_rfl
  f99 := Try.func84.trans (congrArg some (by kernel_rfl))
  f105 := Try.func78.trans (congrArg some (by kernel_rfl))
  f165 := Try.func85.trans (congrArg some (by kernel_rfl))
  f166 := Try.func77.trans (congrArg some (by kernel_rfl))
  f169 := Try.func80.trans (congrArg some (by kernel_rfl))
  f170 := Try.func86.trans (congrArg some (by kernel_rfl))
  f206 := Try.func93.trans (congrArg some (by kernel_rfl))
  f212 := Try.func83.trans (congrArg some (by kernel_rfl))
  f240 := Try.func82.trans (congrArg some (by kernel_rfl))
  f241 := Try.func94.trans (congrArg some (by kernel_rfl))
  f263 := Try.func91.trans (congrArg some (by kernel_rfl))
  f264 := Try.func92.trans (congrArg some (by kernel_rfl))
  f276 := Try.func90.trans (congrArg some (by kernel_rfl))
  f277 := Try.func96.trans (congrArg some (by kernel_rfl))
  t0 := Try.underlying0
  a0 := Try.isAgg0
  z0 := Try.sizeOf0
  v0 := Try.zeroValue0
  t3 := Try.underlying3
  a3 := Try.isAgg3
  z3 := Try.sizeOf3
  v3 := Try.zeroValue3
  t4 := Try.underlying4
  a4 := Try.isAgg4
  z4 := Try.sizeOf4
  v4 := Try.zeroValue4
  t5 := Try.underlying5
  a5 := Try.isAgg5
  z5 := Try.sizeOf5
  v5 := Try.zeroValue5
  t9 := Try.underlying9
  a9 := Try.isAgg9
  z9 := Try.sizeOf9
  v9 := Try.zeroValue9
  t20 := Try.underlying20
  a20 := Try.isAgg20
  z20 := Try.sizeOf20
  v20 := Try.zeroValue20
  t37 := Try.underlying50
  a37 := Try.isAgg50
  z37 := Try.sizeOf50
  v37 := Try.zeroValue50
  t46 := Try.underlying99
  a46 := Try.isAgg99
  z46 := Try.sizeOf99
  v46 := Try.zeroValue99
  t51 := Try.underlying110
  a51 := Try.isAgg110
  z51 := Try.sizeOf110
  v51 := Try.zeroValue110
  t53 := Try.underlying113
  a53 := Try.isAgg113
  z53 := Try.sizeOf113
  v53 := Try.zeroValue113
  t70 := Try.underlying89
  a70 := Try.isAgg89
  z70 := Try.sizeOf89
  v70 := Try.zeroValue89
  t72 := Try.underlying91
  a72 := Try.isAgg91
  z72 := Try.sizeOf91
  v72 := Try.zeroValue91
  t75 := Try.underlying93
  a75 := Try.isAgg93
  z75 := Try.sizeOf93
  v75 := Try.zeroValue93
  t76 := Try.underlying94
  a76 := Try.isAgg94
  z76 := Try.sizeOf94
  v76 := Try.zeroValue94
  t109 := Try.underlying100
  a109 := Try.isAgg100
  z109 := Try.sizeOf100
  v109 := Try.zeroValue100
  t127 := Try.underlying105
  a127 := Try.isAgg105
  z127 := Try.sizeOf105
  v127 := Try.zeroValue105
  t146 := Try.underlying111
  a146 := Try.isAgg111
  z146 := Try.sizeOf111
  v146 := Try.zeroValue111
  t148 := Try.underlying114
  a148 := Try.isAgg114
  z148 := Try.sizeOf114
  v148 := Try.zeroValue114
  t164 := Try.underlying108
  a164 := Try.isAgg108
  z164 := Try.sizeOf108
  v164 := Try.zeroValue108 }
theorem lays138 : Lays.n138 Try.prog renG := {
  mixed := by kernel_rfl
  f138 := Try.func81.trans (congrArg some (by kernel_rfl))
  f143 := Try.func89.trans (congrArg some (by kernel_rfl))
  f195 := Try.func87.trans (congrArg some (by kernel_rfl))
  f217 := Try.func97.trans (congrArg some (by kernel_rfl))
  f218 := Try.func88.trans (congrArg some (by kernel_rfl))
  f219 := Try.func95.trans (congrArg some (by kernel_rfl))
  f224 := Try.func99.trans (congrArg some (by kernel_rfl))
  f225 := Try.func98.trans (congrArg some (by kernel_rfl))
  f266 := Try.func101.trans (congrArg some (by kernel_rfl))
  f267 := Try.func100.trans (congrArg some (by kernel_rfl))
  f314 := Try.func102.trans (congrArg some (by kernel_rfl))
  t0 := Try.underlying0
  a0 := Try.isAgg0
  z0 := Try.sizeOf0
  v0 := Try.zeroValue0
  t3 := Try.underlying3
  a3 := Try.isAgg3
  z3 := Try.sizeOf3
  v3 := Try.zeroValue3
  t4 := Try.underlying4
  a4 := Try.isAgg4
  z4 := Try.sizeOf4
  v4 := Try.zeroValue4
  t5 := Try.underlying5
  a5 := Try.isAgg5
  z5 := Try.sizeOf5
  v5 := Try.zeroValue5
  t9 := Try.underlying9
  a9 := Try.isAgg9
  z9 := Try.sizeOf9
  v9 := Try.zeroValue9
  t46 := Try.underlying99
  a46 := Try.isAgg99
  z46 := Try.sizeOf99
  v46 := Try.zeroValue99
  t51 := Try.underlying110
  a51 := Try.isAgg110
  z51 := Try.sizeOf110
  v51 := Try.zeroValue110
  t146 := Try.underlying111
  a146 := Try.isAgg111
  z146 := Try.sizeOf111
  v146 := Try.zeroValue111
  g1 := by kernel_rfl }
theorem lays166 : Lays.n166 Try.prog renG := {
  mixed := by kernel_rfl
  f166 := Try.func77.trans (congrArg some (by kernel_rfl))
  f240 := Try.func82.trans (congrArg some (by kernel_rfl))
  f276 := Try.func90.trans (congrArg some (by kernel_rfl))
  t0 := Try.underlying0
  a0 := Try.isAgg0
  z0 := Try.sizeOf0
  v0 := Try.zeroValue0
  t3 := Try.underlying3
  a3 := Try.isAgg3
  z3 := Try.sizeOf3
  v3 := Try.zeroValue3
  t4 := Try.underlying4
  a4 := Try.isAgg4
  z4 := Try.sizeOf4
  v4 := Try.zeroValue4
  t9 := Try.underlying9
  a9 := Try.isAgg9
  z9 := Try.sizeOf9
  v9 := Try.zeroValue9
  t20 := Try.underlying20
  a20 := Try.isAgg20
  z20 := Try.sizeOf20
  v20 := Try.zeroValue20
  t37 := Try.underlying50
  a37 := Try.isAgg50
  z37 := Try.sizeOf50
  v37 := Try.zeroValue50
  t70 := Try.underlying89
  a70 := Try.isAgg89
  z70 := Try.sizeOf89
  v70 := Try.zeroValue89
  t72 := Try.underlying91
  a72 := Try.isAgg91
  z72 := Try.sizeOf91
  v72 := Try.zeroValue91
  t75 := Try.underlying93
  a75 := Try.isAgg93
  z75 := Try.sizeOf93
  v75 := Try.zeroValue93
  t164 := Try.underlying108
  a164 := Try.isAgg108
  z164 := Try.sizeOf108
  v164 := Try.zeroValue108 }
theorem lays167 : Lays.n167 Try.prog renG := {
  mixed := by kernel_rfl
  f167 := Try.func79.trans (congrArg some (by kernel_rfl))
  f240 := Try.func82.trans (congrArg some (by kernel_rfl))
  f276 := Try.func90.trans (congrArg some (by kernel_rfl))
  t0 := Try.underlying0
  a0 := Try.isAgg0
  z0 := Try.sizeOf0
  v0 := Try.zeroValue0
  t4 := Try.underlying4
  a4 := Try.isAgg4
  z4 := Try.sizeOf4
  v4 := Try.zeroValue4
  t5 := Try.underlying5
  a5 := Try.isAgg5
  z5 := Try.sizeOf5
  v5 := Try.zeroValue5
  t9 := Try.underlying9
  a9 := Try.isAgg9
  z9 := Try.sizeOf9
  v9 := Try.zeroValue9
  t20 := Try.underlying20
  a20 := Try.isAgg20
  z20 := Try.sizeOf20
  v20 := Try.zeroValue20
  t37 := Try.underlying50
  a37 := Try.isAgg50
  z37 := Try.sizeOf50
  v37 := Try.zeroValue50
  t70 := Try.underlying89
  a70 := Try.isAgg89
  z70 := Try.sizeOf89
  v70 := Try.zeroValue89
  t72 := Try.underlying91
  a72 := Try.isAgg91
  z72 := Try.sizeOf91
  v72 := Try.zeroValue91
  t75 := Try.underlying93
  a75 := Try.isAgg93
  z75 := Try.sizeOf93
  v75 := Try.zeroValue93
  t164 := Try.underlying108
  a164 := Try.isAgg108
  z164 := Try.sizeOf108
  v164 := Try.zeroValue108 }
theorem lays169 : Lays.n169 Try.prog renG := {
  mixed := by kernel_rfl
  f169 := Try.func80.trans (congrArg some (by kernel_rfl))
  t0 := Try.underlying0
  a0 := Try.isAgg0
  z0 := Try.sizeOf0
  v0 := Try.zeroValue0
  t3 := Try.underlying3
  a3 := Try.isAgg3
  z3 := Try.sizeOf3
  v3 := Try.zeroValue3
  t9 := Try.underlying9
  a9 := Try.isAgg9
  z9 := Try.sizeOf9
  v9 := Try.zeroValue9
  t37 := Try.underlying50
  a37 := Try.isAgg50
  z37 := Try.sizeOf50
  v37 := Try.zeroValue50
  t70 := Try.underlying89
  a70 := Try.isAgg89
  z70 := Try.sizeOf89
  v70 := Try.zeroValue89
  t72 := Try.underlying91
  a72 := Try.isAgg91
  z72 := Try.sizeOf91
  v72 := Try.zeroValue91
  t127 := Try.underlying105
  a127 := Try.isAgg105
  z127 := Try.sizeOf105
  v127 := Try.zeroValue105 }
theorem extraG : Builder.Extra Try.prog renG := {
  sizeBuilder := by kernel_rfl
  liesBuilder := by kernel_rfl
  t5 := Try.underlying5
  a5 := Try.isAgg5
  z5 := Try.sizeOf5
  v5 := Try.zeroValue5
  infoByte := by kernel_rfl
  cellsByte := by kernel_rfl
  sizeByte := by kernel_rfl
  neB5 := by decide }
/-- A string of these bytes. -/
def bytesOf (l : List UInt8) : ByteArray := ⟨l.toArray⟩
theorem bytesOf_size (l : List UInt8) : (bytesOf l).size = l.length := by simp [bytesOf, ByteArray.size]
theorem bytesOf_cells (l : List UInt8) : Lib.strCells (bytesOf l) = Lib.byteCells l := by rw [Lib.strCells_eq]; rfl
theorem repeatL_one' (c : UInt8) : ∀ k, Lib.repeatL [c] k = List.replicate k c
  | 0 => rfl
  | k + 1 => by rw [Lib.repeatL, repeatL_one' c k, List.replicate_succ]; rfl
theorem repeat_any (k : Nat) (z : Int) (w : World) (hz : z = (k : Int)) (hk : k ≤ 1000) : Calls Try.prog 78 #[.string ⟨#[114]⟩, .int .i64 z] w (Ret (.string (bytesOf (List.replicate k 114))) w) := by
  subst hz
  refine (Any.strings_Repeat lays105 extraG ⟨#[114]⟩ k w (by omega) (by show 1 * k ≤ _; omega)).mono ?_
  rintro e w1 ⟨rfl, hw1⟩
  refine Ret.mk ?_ hw1
  show Value.string ⟨(Lib.repeatL [114] k).toArray⟩ = _
  rw [repeatL_one']; rfl
theorem count_any (s : ByteArray) (c : UInt8) (w : World) : Calls Try.prog 81 #[.string s, .string ⟨#[c]⟩] w (Only (.int .i64 ((s.data.toList.count c : Nat) : Int)) w) := by
  refine (Any.strings_Count_one lays138 s c w).mono ?_
  rintro e w1 ⟨rfl, rfl⟩
  exact Only.mk rfl
/-- A builder at b holds these bytes. -/
def BldI (b : Nat) (l : List UInt8) (w : World) : Prop := Lib.IsBuilder 91 5 b b (Lib.byteCells l) w
theorem BldI.next {b : Nat} {l : List UInt8} {w w' : World} (h : BldI b l w) (hb : Below w.heap.size w w') : BldI b l w' := by
  have k : ∀ {p : Value}, Lib.BuilderAt 91 5 b b p (Lib.byteCells l) w → Lib.BuilderAt 91 5 b b p (Lib.byteCells l) w' := fun {p} h => by
    obtain ⟨hB, v, hh, hown, hne⟩ := h
    exact ⟨hB, v, (hb.block b (Array.getElem?_eq_some_iff.1 hh).1).trans hh, owns_next hown hb, hne⟩
  rcases h with h | h
  · exact .inl (k h)
  · exact .inr (k h)
theorem BldI.lt {b : Nat} {l : List UInt8} {w : World} (h : BldI b l w) : b < w.heap.size := by
  rcases h with h | h
  · exact h.lt
  · exact h.lt
theorem bldI_new (w : World) : BldI w.heap.size [] (w.alloc (.cells #[.pointer none, .slice none 0 0] 91)) := Lib.fresh_isBuilder _ _ w
/-- The builder was written on; what it found below b stands. -/
def WroteR (b : Nat) (l : List UInt8) (w w' : World) : Prop := BldI b l w' ∧ Below b w w'
theorem writeString_any (b : Nat) (l m : List UInt8) (w : World) (h : BldI b l w) (hl : l.length + m.length ≤ 1000) : Calls Try.prog 77 #[.pointer (some ⟨b, 0, none⟩), .string (bytesOf m)] w fun e w' => (∃ v, e = .returned v) ∧ WroteR b (l ++ m) w w' := by
  have hlt := h.lt
  refine (Any.Builder_WriteString lays166 extraG b b (Lib.byteCells l) (bytesOf m) w h (by rw [Lib.byteCells_length, bytesOf_size]; omega) (by omega)).mono ?_
  rintro e w1 ⟨rfl, h1, h2⟩
  refine ⟨⟨_, rfl⟩, ?_, h2⟩
  unfold BldI
  rw [Lib.byteCells_append, ← bytesOf_cells m]
  exact .inr h1
theorem writeByte_any (b : Nat) (l : List UInt8) (w : World) (h : BldI b l w) (hl : l.length ≤ 1000) : Calls Try.prog 79 #[.pointer (some ⟨b, 0, none⟩), .int .u8 117] w fun e w' => (∃ v, e = .returned v) ∧ WroteR b (l ++ [117]) w w' := by
  have hlt := h.lt
  refine (Any.Builder_WriteByte lays167 extraG b b (Lib.byteCells l) 117 w h (by rw [Lib.byteCells_length]; omega) (by omega)).mono ?_
  rintro e w1 ⟨rfl, h1, h2⟩
  refine ⟨⟨_, rfl⟩, ?_, h2⟩
  unfold BldI
  rw [Lib.byteCells_append]
  exact .inr h1
theorem string_any (b : Nat) (l : List UInt8) (w : World) (h : BldI b l w) : Calls Try.prog 80 #[.pointer (some ⟨b, 0, none⟩)] w fun e w' => e = .returned (.string (bytesOf l)) ∧ Below b w w' :=
  Any.Builder_String_any lays169 extraG b b l w h (by have := h.lt; omega)
end Go.Proofs.Ytniknldeafmgaaa
