/- Layer 2: which lists are brands: the program's test. -/
import Derived.Test.YtflbaadfbjpakaaBd
namespace Go.Proofs.Ytflbaadfbjpakaa
open Go Go.RowKit

/-- Line i is one, and comes behind all lines before it, and crosses none of them. -/
def OkL (n : Int) (L : List (Int × Int)) (i : Nat) : Prop := LineP n (pth L i) ∧ ∀ k, k < i → LexP (pth L k) (pth L i) ∧ ¬ CutP (pth L k) (pth L i)
instance (n L i) : Decidable (OkL n L i) := by unfold OkL; infer_instance
/-- The lines cut a polygon of n corners into triangles, and are in order. -/
def BrandP (n : Int) (L : List (Int × Int)) : Prop := 3 ≤ n ∧ n ≤ 12 ∧ (L.length : Int) = n - 3 ∧ ∀ i, i < L.length → OkL n L i
instance (n L) : Decidable (BrandP n L) := by unfold BrandP; infer_instance
/-- What brandOf returns. -/
def brandV (n : Int) (a : Option Addr) (m c : Nat) (b : Bool) : Value := if b = true then .tuple #[.agg #[.int .i64 n, .slice a m c], .bool true] else .tuple #[.agg #[.int .i64 0, .slice none 0 0], .bool false]
theorem brandV_no {n : Int} {a : Option Addr} {m c : Nat} {L : List (Int × Int)} (h : ¬ BrandP n L) : brandV n a m c (decide (BrandP n L)) = .tuple #[.agg #[.int .i64 0, .slice none 0 0], .bool false] := by rw [decide_eq_false h]; rfl
theorem brandV_yes {n : Int} {a : Option Addr} {m c : Nat} {L : List (Int × Int)} (h : BrandP n L) : brandV n a m c (decide (BrandP n L)) = .tuple #[.agg #[.int .i64 n, .slice a m c], .bool true] := by rw [decide_eq_true h]; rfl

set_option maxRecDepth 100000 in
set_option maxHeartbeats 1600000 in
theorem brandOf_out (n : Int) (a : Option Addr) (m c : Nat) (L : List (Int × Int)) (w : World) (hl : L.length = m) (_hm : m ≤ 4611686018427387904) (hh : ¬ (3 ≤ n ∧ n ≤ 12 ∧ (m : Int) = n - 3)) :
    Calls Try.prog 48 #[.int .i64 n, .slice a m c] w (Ret (brandV n a m c (decide (BrandP n L))) w) := by
  rw [brandV_no (show ¬ BrandP n L from fun h => hh ⟨h.1, h.2.1, by have := h.2.2.1; omega⟩)]
  clear hl
  by_cases h1 : n < 3
  · clear hh
    go_enter Try.func48, Try.ntmps48
    go_wp2
    exact bodyPost_ret (v := .tuple #[.agg #[.int .i64 0, .slice none 0 0], .bool false]) (by simp [results, Try.results48, go_sem]) rfl (Ret.mk rfl (b1 _ _))
  · by_cases h2 : 12 < n
    · clear hh
      go_enter Try.func48, Try.ntmps48
      go_wp2
      exact bodyPost_ret (v := .tuple #[.agg #[.int .i64 0, .slice none 0 0], .bool false]) (by simp [results, Try.results48, go_sem]) rfl (Ret.mk rfl (b1 _ _))
    · have g : ((m : Int) != n - 3) = true := by rw [bne_iff_ne]; omega
      clear hh
      go_enter Try.func48, Try.ntmps48
      go_wp2
      exact bodyPost_ret (v := .tuple #[.agg #[.int .i64 0, .slice none 0 0], .bool false]) (by simp [results, Try.results48, go_sem]) rfl (Ret.mk rfl (b1 _ _))

set_option maxRecDepth 100000 in
set_option maxHeartbeats 1600000 in
theorem brandOf_three (a : Option Addr) (c : Nat) (w : World) :
    Calls Try.prog 48 #[.int .i64 3, .slice a (0 : Nat) c] w (Ret (.tuple #[.agg #[.int .i64 3, .slice a (0 : Nat) c], .bool true]) w) := by
  go_enter Try.func48, Try.ntmps48
  go_wp2
  go_loop [26] (fun i => i = .int .i64 0) (fun i => 0)
  case atStart => rfl
  case round =>
    subst hrel
    go_wp2
    exact bodyPost_ret (v := .tuple #[.agg #[.int .i64 3, .slice a (0 : Nat) c], .bool true]) (by simp [results, Try.results48, go_sem]) rfl (Ret.mk rfl (b1 _ _))
end Go.Proofs.Ytflbaadfbjpakaa
