/- Layer 8, the laws: lists that were returned; rows of states; days add up. -/
import Derived.Test.YtniknldeafmgaaaHc
import Derived.Test.YtniknldeafmgaaaHf
namespace Go.Proofs.Ytniknldeafmgaaa
set_option linter.unusedSimpArgs false
set_option linter.unusedVariables false
open Go Go.RowKit

/-- A state and no error were returned. -/
def GotS (a : Nat) (g : Nat → Nat) (w : World) (e : Ending) (w' : World) : Prop := ∃ ad c, e = .returned (.tuple #[.slice ad a c, .int .i64 0]) ∧ Ints w' ad (stL a g) ∧ Below w.heap.size w w'
theorem CopyE.gotS {a : Nat} {g : Nat → Nat} {w w' : World} {e : Ending} (h : CopyE (stL a g) w e w') : GotS a g w e w' := by
  obtain ⟨ad, c, h1, _, h3, h4⟩ := h.got
  rw [stL_len] at h1
  exact ⟨ad, c, h1, h3, h4⟩
theorem stL_inj {a b : Nat} {g h : Nat → Nat} (hg : IsS a b g) (hh : IsS a b h) (e : stL a g = stL a h) : g = h := by
  rw [← gX_stL hg, ← gX_stL hh, e]
theorem same_eq (ad ad' : Option Addr) (a c c' : Nat) (g h : Nat → Nat) (w : World) (ha : a ≤ 6) (hI : Ints w ad (stL a g)) (hI' : Ints w ad' (stL a h)) (e : g = h) :
    Calls Try.prog 18 #[.slice ad a c, .slice ad' a c'] w (Ret (.bool true) w) := by
  have := same_any ad ad' a a c c' (stL a g) (stL a h) w hI hI' (stL_len a g) (stL_len a h) (by omega) (by omega)
  rwa [decide_eq_true (by rw [e])] at this
theorem same_ne (ad ad' : Option Addr) (a b c c' : Nat) (g h : Nat → Nat) (w : World) (hg : IsS a b g) (hh : IsS a b h) (hI : Ints w ad (stL a g)) (hI' : Ints w ad' (stL a h)) (e : g ≠ h) :
    Calls Try.prog 18 #[.slice ad a c, .slice ad' a c'] w (Ret (.bool false) w) := by
  have h6 := hg.p.a6
  have := same_any ad ad' a a c c' (stL a g) (stL a h) w hI hI' (stL_len a g) (stL_len a h) (by omega) (by omega)
  rwa [decide_eq_false (fun k => e (stL_inj hg hh k))] at this
/-- Block B holds lists of these states. -/
def RowsI (W : World) (B a : Nat) (L : List (Nat → Nat)) : Prop := ∀ r, r < L.length → ∃ ar cr, W.cell? ⟨B, r, none⟩ = some (.slice ar a cr) ∧ Ints W ar (stL a (fAt L r))
theorem RowsI.next {W W' : World} {B a : Nat} {L : List (Nat → Nat)} (h : RowsI W B a L) (hb : Below W.heap.size W W') : RowsI W' B a L := fun r hr => by
  obtain ⟨ar, cr, h1, h2⟩ := h r hr
  exact ⟨ar, cr, cellB hb h1, h2.next hb⟩
/-- Rows of states were returned, to be read. -/
def GotR (a : Nat) (L : List (Nat → Nat)) (w : World) (e : Ending) (w' : World) : Prop := ∃ B c, e = .returned (.tuple #[.slice (some ⟨B, 0, none⟩) L.length c, .int .i64 0]) ∧ RowsI w' B a L ∧ Below w.heap.size w w'
theorem RowsR.got {a : Nat} {L : List (Nat → Nat)} {w w' : World} {e : Ending} (h : RowsR a L w e w') (h0 : 0 < L.length) : GotR a L w e w' := by
  obtain ⟨v, G, h1, h2, h3, h4, h5⟩ := h
  obtain ⟨g, cap, rfl⟩ := own_pos h3 (by omega)
  refine ⟨g, cap, by rw [h1, h2], fun r hr => ?_, h5⟩
  refine ⟨some ⟨(gth G r).1, 0, none⟩, (gth G r).2, ?_, .inr ⟨_, 0, rfl, fun i hi => ?_⟩⟩
  · rw [h3.cellAt r (by omega)]
    exact rowsV_get (by omega)
  · rw [stL_len] at hi
    rw [Nat.zero_add, (h4.1 r (by omega)).2.2 i hi, stL_nth _ hi]
theorem dayI_mod {a b : Nat} {g : Nat → Nat} (hs : IsS a b g) (k : Nat) : dayI a b g k = dayI a b g (k % (a + b)) := by
  obtain ⟨T, hT⟩ := isT_ex hs
  rw [hT.mod k, hT.mod (k % (a + b)), Nat.mod_mod_of_dvd _ (Nat.dvd_of_mod_eq_zero (hT.per hs))]
theorem dmod_all {a b : Nat} : dmod a b ((a : Int) + (b : Int)) = 0 := by
  unfold dmod
  rw [show (a : Int) + (b : Int) = ((a + b : Nat) : Int) by omega, Int.emod_self]; rfl
theorem dmod_cast {a b : Nat} (h : 1 ≤ a) (d : Int) : ((dmod a b d : Nat) : Int) = d % ((a + b : Nat) : Int) := by
  unfold dmod
  exact Int.toNat_of_nonneg (Int.emod_nonneg _ (by omega))
theorem days_add {a b : Nat} {g : Nat → Nat} (hs : IsS a b g) (x y : Int) : dayI a b (dayI a b g (dmod a b x)) (dmod a b y) = dayI a b g (dmod a b (x + y)) := by
  have h1 := hs.p.a1
  rw [← dayI_add, dayI_mod hs]
  congr 1
  have e : (((dmod a b x + dmod a b y) % (a + b) : Nat) : Int) = ((dmod a b (x + y) : Nat) : Int) := by
    rw [Int.natCast_emod, Int.natCast_add, dmod_cast h1, dmod_cast h1, dmod_cast h1, ← Int.add_emod]
  exact Int.ofNat.inj e
end Go.Proofs.Ytniknldeafmgaaa
