/- Layer 2: the map of the numbers between corners. -/
import Derived.Test.YtkbdclladfjmcaaMf
import Derived.Maps.OwnOps
import Derived.Maps.Views
import Derived.DeepKeys4
namespace Go.Proofs.Ytkbdclladfjmcaa
open Go Go.RowKit

theorem laidP : laidOutB Try.prog = true := by kernel_rfl
theorem widePr : (match Try.prog.underlying 29 with | some (.array _ _) | some (.struct _) => true | _ => false) = true := by rw [Try.underlying29]
theorem rowPr : (29 : TypeId) < Try.prog.types.size := of_decide_eq_true (by kernel_rfl)
theorem deepPr : Try.prog.keyTypeAt 2 29 = true := by kernel_rfl
set_option maxRecDepth 100000 in
theorem lawPr : Maps.Keyed Try.prog 29 := Maps.Keyed.of_law (deep_law_laid laidP (m := 2) (show 2 + 1 ≤ 10000 from of_decide_eq_true rfl) rowPr deepPr widePr)
/-- What a pair reads as, as a key. -/
def pk (i k : Int) : Lit := .string (keyBytes [.int .i64 i, .int .i64 k])
/-- A number that an int can be. -/
def Wf (i : Int) : Prop := (Lit.int .i64 i).wf = true
theorem wf_bd {i : Int} (h0 : -9223372036854775808 ≤ i) (h1 : i ≤ 9223372036854775807) : Wf i := WalkArith.wf_i64 (by omega)
theorem keyOf_pr {i k : Int} (hi : Wf i) (hk : Wf k) : keyOf Try.prog 29 (.agg #[.int .i64 i, .int .i64 k]) = some (pk i k) := by
  have hkt : Try.prog.keyType 29 = true := by kernel_rfl
  have hcell : Try.prog.cellsOf 29 = 2 := by kernel_rfl
  obtain ⟨m, hm⟩ : ∃ m, Try.prog.types.size = m + 1 := ⟨Try.prog.types.size - 1, by kernel_rfl⟩
  have c3 : Try.prog.cellsOf 3 = 1 := by kernel_rfl
  unfold Wf at hi hk
  unfold keyOf
  simp only [Try.underlying29]
  rw [if_pos (by simp [hkt, Value.formed, Try.underlying29, hcell]), hm]
  unfold Program.keyLits
  simp only [Try.underlying29, Value.cells]
  rw [if_pos (by rw [hcell]; exact ⟨rfl, by simp⟩)]
  simp [Program.keyLits, Try.underlying3, c3, hi, hk, pk]
theorem pk_inj {i k a b : Int} (hi : Wf i) (hk : Wf k) (ha : Wf a) (hb : Wf b) (h : pk i k = pk a b) : i = a ∧ k = b := by
  have h1 := keyOf_pr hi hk
  rw [h] at h1
  have := lawPr.inj h1 (keyOf_pr ha hb)
  simp only [Value.agg.injEq, Array.mk.injEq, List.cons.injEq, Value.int.injEq, true_and, and_true] at this
  exact this
/-- Block B is a map of numbers: f of each pair. -/
def NumMap (w : World) (B c : Nat) (f : Int → Int → Int) : Prop :=
  ∃ D : DataW Unit, w.ownsMap Try.prog 29 (plainElem Try.prog 3) B c D ∧ Maps.IsMap D ∧ ∀ i k, Wf i → Wf k → D.atKey (pk i k) (.lit (.int .i64 0)) = .lit (.int .i64 (f i k))
theorem NumMap.made (w : World) : NumMap (w.alloc (.map #[] 0)) w.heap.size 0 fun _ _ => 0 := ⟨.map [], World.ownsMap_made _ _ _ _, Maps.isMap_empty, fun _ _ _ _ => rfl⟩
theorem NumMap.next {w w' : World} {B c : Nat} {f : Int → Int → Int} (h : NumMap w B c f) (hb : Below w.heap.size w w') : NumMap w' B c f := by
  obtain ⟨D, h1, h2, h3⟩ := h
  have hlt := h1.lt
  obtain ⟨es, clock, hh, F, hs, e⟩ := h1
  exact ⟨D, ⟨es, clock, (hb.block B hlt).trans hh, F, hs, e⟩, h2, h3⟩
theorem NumMap.lt {w : World} {B c : Nat} {f : Int → Int → Int} (h : NumMap w B c f) : B < w.heap.size := by
  obtain ⟨D, h1, _, _⟩ := h
  exact h1.lt
def updN (f : Int → Int → Int) (i k v : Int) : Int → Int → Int := fun a b => if a = i ∧ b = k then v else f a b
/-- The numbers from i on, up to i + d, in f's place. -/
def part (f : Int → Int → Int) (xs : List Int) (i d : Nat) : Int → Int → Int := fun a b => if a = i ∧ (i : Int) ≤ b ∧ b ≤ (i : Int) + d then eD xs i (b - i).toNat else f a b
theorem part_one (f : Int → Int → Int) (xs : List Int) (i : Nat) : updN (updN f i i 0) i ((i : Int) + 1) 1 = part f xs i 1 := by
  funext a b
  unfold updN part
  by_cases h1 : a = (i : Int)
  · by_cases h2 : b = (i : Int) + 1
    · rw [if_pos ⟨h1, h2⟩, if_pos (by omega), show (b - i).toNat = 1 by omega]; rfl
    · rw [if_neg (by omega)]
      by_cases h3 : b = (i : Int)
      · rw [if_pos ⟨h1, h3⟩, if_pos (by omega), show (b - i).toNat = 0 by omega]; rfl
      · rw [if_neg (by omega), if_neg (by omega)]
  · rw [if_neg (by omega), if_neg (by omega), if_neg (by omega)]
theorem part_succ (f : Int → Int → Int) (xs : List Int) (i d : Nat) (v : Int) (hv : v = eD xs i (d + 1)) : updN (part f xs i d) i ((i : Int) + d + 1) v = part f xs i (d + 1) := by
  funext a b
  unfold updN part
  by_cases h1 : a = (i : Int)
  · by_cases h2 : b = (i : Int) + d + 1
    · rw [if_pos ⟨h1, h2⟩, if_pos (by omega), hv, show (b - i).toNat = d + 1 by omega]
    · rw [if_neg (by omega)]
      by_cases h3 : (i : Int) ≤ b ∧ b ≤ (i : Int) + d
      · rw [if_pos ⟨h1, h3⟩, if_pos (by omega)]
      · rw [if_neg (by omega), if_neg (by omega)]
  · rw [if_neg (by omega), if_neg (by omega), if_neg (by omega)]
theorem part_at (f : Int → Int → Int) (xs : List Int) {i d e : Nat} (h : e ≤ d) {b : Int} (hb : b = (i : Int) + e) : part f xs i d i b = eD xs i e := by
  unfold part
  rw [if_pos (by omega), show (b - i).toNat = e by omega]
theorem tame_bd {xs : List Int} (h : RoundP xs) (i d : Nat) (hd : d ≤ 12) : -23298085122481 ≤ eD xs i d ∧ eD xs i d ≤ 23298085122481 := by
  have h1 := (eD_bd (R := xs) (by have := h.1; omega) (fun i hi => by have := h.2.2 i hi; omega) i d).1
  have h2 : (13 : Int) ^ d ≤ 13 ^ 12 := by
    have : (13 : Nat) ^ d ≤ 13 ^ 12 := Nat.pow_le_pow_right (by omega) hd
    have e := Int.ofNat_le.2 this
    simpa using e
  have h3 : (13 : Int) ^ 12 = 23298085122481 := by decide
  omega
theorem mul_tame {y p : Int} (h0 : 1 ≤ y) (h1 : y ≤ 12) (p0 : -23298085122481 ≤ p) (p1 : p ≤ 23298085122481) : -279577021469772 ≤ y * p ∧ y * p ≤ 279577021469772 := by
  have := mul_bd (x := y) (y := p) (X := 12) (Y := 23298085122481) (by omega) h1 p0 p1
  omega
end Go.Proofs.Ytkbdclladfjmcaa
