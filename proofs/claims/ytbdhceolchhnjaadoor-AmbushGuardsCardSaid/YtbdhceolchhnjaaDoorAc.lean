/- Layer 4, by the program: sides and their letters, sets of spots, positions and turns. -/
import Derived.Test.YtbdhceolchhnjaaDoorAb
namespace Go.Proofs.YtbdhceolchhnjaaDoor
open Go Go.RowKit

abbrev fV (m : Nat) (a : Option Addr) (n c : Nat) : Value := .agg #[.int .i64 (m : Nat), .slice a n c]
abbrev pV (w d : Nat) : Value := .agg #[.int .i64 (w : Nat), .int .i64 (d : Nat)]
abbrev tV (w d s : Nat) : Value := .agg #[.int .i64 (w : Nat), .int .i64 (d : Nat), .int .i64 (s : Nat)]
def strW : ByteArray := { data := #[119] }
def strD : ByteArray := { data := #[100] }
/-- The letter of a side. -/
def ltr (s : Nat) : ByteArray := if s = 0 then strW else strD
theorem Blk.setA {W : World} {B i : Nat} {t : TypeId} {cs : Array Value} (h : Blk W B t cs) (v : Value) : Blk (W.setCell ⟨B, i, none⟩ v) B t (cs.setIfInBounds i v) := by
  unfold Blk at *
  have hlt := (Array.getElem?_eq_some_iff.1 h).1
  have h' : W.heap[B] = .cells cs t (0, 0) := by simpa [Array.getElem?_eq_getElem hlt] using h
  show (W.heap.modify B _)[B]? = _
  rw [Array.getElem?_eq_getElem (by simpa using hlt), Array.getElem_modify_self, h']
  simp
theorem Blk.set2 {W : World} {B : Nat} {t : TypeId} {x y : Value} (h : Blk W B t #[x, y]) (u v : Value) : Blk ((W.setCell ⟨B, 0, none⟩ u).setCell ⟨B, 1, none⟩ v) B t #[u, v] := (h.setA u).setA v
theorem letter_any (s : Nat) (hs : s < 2) (w : World) : Calls Tryd.prog 43 #[.int .i64 (s : Nat)] w (Only (.string (ltr s)) w) := by
  obtain rfl | rfl : s = 0 ∨ s = 1 := by omega
  all_goals
    go_enter Tryd.func43, Tryd.ntmps43
    go_wp2
    go_ret
    exact Only.mk rfl
theorem sideOther_any (s : Nat) (hs : s < 2) (w : World) : Calls Tryd.prog 92 #[.int .i64 (s : Nat)] w (Only (.int .i64 ((1 - s : Nat) : Int)) w) := by
  obtain rfl | rfl : s = 0 ∨ s = 1 := by omega
  all_goals
    go_enter Tryd.func92, Tryd.ntmps92
    go_wp2
    go_ret
    exact Only.mk rfl
theorem wrap_shl {k : Nat} (h : k < 40) : IntKind.i64.wrap ((2 : Int) ^ k) = ((pw k : Nat) : Int) := by rw [pw_int]; exact wrap_pw h
theorem all_any (m : Nat) (a : Option Addr) (n c : Nat) (hm : m ≤ 9) (w : World) : Calls Tryd.prog 78 #[fV m a n c] w (Ret (.int .i64 ((pw m - 1 : Nat) : Int)) w) := by
  have sh := wrap_shl (k := m) (by omega)
  have hp := pw_le (i := m) (by omega)
  have hp1 := pw_pos m
  have hw : IntKind.i64.wrap (((pw m : Nat) : Int) - 1) = ((pw m - 1 : Nat) : Int) := by rw [IntWalk.i64_in _ (by omega)]; omega
  go_enter Tryd.func78, Tryd.ntmps78
  go_wp2
  go_ret
  exact Ret.mk rfl (b1 _ _)
theorem knowsA_any (m : Nat) (a : Option Addr) (n c : Nat) (x : Int) (w : World) : Calls Tryd.prog 56 #[fV m a n c, .int .i64 x] w (Ret (.bool (decide (0 ≤ x) && decide (x < (m : Int)))) w) := by
  by_cases h0 : 0 ≤ x
  · have g0 : decide (0 ≤ x) = true := decide_eq_true h0
    go_enter Tryd.func56, Tryd.ntmps56
    go_wp2
    go_ret
    refine Ret.mk ?_ (b1 _ _)
    simp [h0]
  · have g0 : decide (0 ≤ x) = false := decide_eq_false h0
    go_enter Tryd.func56, Tryd.ntmps56
    go_wp2
    go_ret
    refine Ret.mk ?_ (b1 _ _)
    simp [h0]
end Go.Proofs.YtbdhceolchhnjaaDoor
