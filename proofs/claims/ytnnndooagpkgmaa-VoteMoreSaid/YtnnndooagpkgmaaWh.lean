/- Layer 3, by the specification: Wins, Least. -/
import Derived.Test.YtnnndooagpkgmaaWg
namespace Go.Proofs.Ytnnndooagpkgmaa
open Go Go.RowKit

theorem few_any (q : Int) (a : Option Addr) (n c : Nat) (w : World) : Calls Try.prog 15 #[bodyV q a n c] w (Ret (.bool (decide (n ≤ 30))) w) := by
  go_enter Try.func15, Try.ntmps15
  go_wp2
  go_ret
  exact Ret.mk (ret_dec (by simp; try omega)) (b1 _ _)
section
variable (q : Int) (a : Option Addr) (n c : Nat) (ws : List Int) (w : World)
theorem refWins_no (s : Int) (h : Ints w a ws) (hl : ws.length = n) (hn : n ≤ 30) (hB : ¬ BodyP q ws) :
    Calls Try.prog 18 #[bodyV q a n c, .int .i64 s] w (Ret (errV (.bool false)) w) := by
  have K := Lib.hid (fun W hW => refIsBody_any q a n c ws W hW hl (by omega))
  rw [decide_eq_false hB] at K
  have h := Lib.hid h
  clear hl hB
  go_enter Try.func18, Try.ntmps18
  go_wp2_with (go_at_call 41; refine (K.out _ (h.out.next (b1 _ _))).mono ?_; rintro e w1 ⟨rfl, hb1⟩)
  go_ret2
  exact Ret.mk rfl (nextB (b1 _ _) hb1)
theorem refWins_out (s : Int) (h : Ints w a ws) (hl : ws.length = n) (hB : BodyP q ws) (hs : ¬ (0 ≤ s ∧ s < ((pw n : Nat) : Int))) :
    Calls Try.prog 18 #[bodyV q a n c, .int .i64 s] w (Ret (errV (.bool false)) w) := by
  have h8 : n ≤ 8 := by have := hB.2.1; omega
  have K := Lib.hid (fun W hW => refIsBody_any q a n c ws W hW hl (by omega))
  rw [decide_eq_true hB] at K
  have sh := wrap_shl (k := n) (by omega)
  have X := Lib.hid (Blk.new w 24 #[.int .i64 q, .slice a n c])
  have h := Lib.hid h
  clear hl hB
  generalize pw n = N at *
  by_cases h0 : s < 0
  · clear hs sh
    go_enter Try.func18, Try.ntmps18
    go_wp2_with (go_at_call 41; refine (K.out _ (h.out.next (b1 _ _))).mono ?_; rintro e w1 ⟨rfl, hb1⟩)
    go_ret2
    exact Ret.mk rfl (nextB (b1 _ _) hb1)
  · have h1 : (N : Int) ≤ s := by omega
    clear hs
    go_enter Try.func18, Try.ntmps18
    go_wp2_with (go_at_call 41; refine (K.out _ (h.out.next (b1 _ _))).mono ?_; rintro e w1 ⟨rfl, hb1⟩; have x1 := (X.out.ext hb1).c 1 rfl)
    go_ret2
    exact Ret.mk rfl (nextB (b1 _ _) hb1)
theorem refWins_yes (s : Nat) (h : Ints w a ws) (hl : ws.length = n) (hB : BodyP q ws) (hs : s < pw n) :
    Calls Try.prog 18 #[bodyV q a n c, .int .i64 (s : Nat)] w (Ret (.tuple #[.bool (winB q ws s), .int .i64 0]) w) := by
  have h8 : n ≤ 8 := by have := hB.2.1; omega
  have hp8 : pw n ≤ 256 := by have := pw_mono h8; simpa [pw] using this
  have K := Lib.hid (fun W hW => refIsBody_any q a n c ws W hW hl (by omega))
  rw [decide_eq_true hB] at K
  have V := Lib.hid (fun W hW => refwins_any q a n c s ws W hW hl h8 hB.2.2.1 (by omega))
  have sh := wrap_shl (k := n) (by omega)
  have X := Lib.hid (Blk.new w 24 #[.int .i64 q, .slice a n c])
  have h := Lib.hid h
  clear hl hB
  generalize pw n = N at *
  have g1 : decide (N ≤ s) = false := decide_eq_false (by omega)
  go_enter Try.func18, Try.ntmps18
  go_wp2_with (first
    | (go_at_call 41; refine (K.out _ (h.out.next (b1 _ _))).mono ?_; rintro e w1 ⟨rfl, hb1⟩; have x0 := (X.out.ext hb1).c 0 rfl; have x1 := (X.out.ext hb1).c 1 rfl)
    | (go_at_call 45; refine (V.out _ (h.out.next (nextB (b1 _ _) hb1))).mono ?_; rintro e w2 ⟨rfl, hb2⟩))
  go_ret2
  exact Ret.mk rfl (nextB (b1 _ _) (nextB hb1 hb2))
theorem refLeast_no (h : Ints w a ws) (hl : ws.length = n) (hn : n ≤ 30) (hB : ¬ BodyP q ws) :
    Calls Try.prog 20 #[bodyV q a n c] w (Ret (errV (.slice none 0 0)) w) := by
  have K := Lib.hid (fun W hW => refIsBody_any q a n c ws W hW hl (by omega))
  rw [decide_eq_false hB] at K
  have h := Lib.hid h
  clear hl hB
  go_enter Try.func20, Try.ntmps20
  go_wp2_with (go_at_call 41; refine (K.out _ (h.out.next (b1 _ _))).mono ?_; rintro e w1 ⟨rfl, hb1⟩)
  go_ret2
  exact Ret.mk rfl (nextB (b1 _ _) hb1)
end
/-- Least so far: no one of the first i drovers can be left out. -/
def leastTo (f : Nat → Bool) (s i : Nat) : Bool := f s && (List.range i).all fun j => !(s.testBit j) || !(f (s - pw j))
theorem leastTo_succ (f : Nat → Bool) (s i : Nat) : leastTo f s (i + 1) = (leastTo f s i && (!(s.testBit i) || !(f (s - pw i)))) := by
  unfold leastTo
  rw [List.range_succ, List.all_append]
  simp [Bool.and_assoc]
theorem leastTo_isLeast (n : Nat) (f : Nat → Bool) (s : Nat) : leastTo f s n = isLeast n f s := rfl
theorem leastTo_false {f : Nat → Bool} {s i n : Nat} (h : leastTo f s i = false) (hi : i ≤ n) : isLeast n f s = false := by
  rw [← leastTo_isLeast]
  obtain ⟨d, rfl⟩ : ∃ d, n = i + d := ⟨n - i, by omega⟩
  clear hi
  induction d with
  | zero => exact h
  | succ d ih => rw [← Nat.add_assoc, leastTo_succ, ih]; rfl
end Go.Proofs.Ytnnndooagpkgmaa
