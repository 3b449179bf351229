/- Layer 1: are two lists of points the same? -/
import Derived.Test.YtnjegnlfdbbleaaR
namespace Go.Proofs.Ytnjegnlfdbbleaa
open Go Go.RowKit Go.Shelf

/-- The same points. -/
def SameP (n m : Nat) (p q : Nat → Int × Int) : Prop := n = m ∧ ∀ i, i < n → p i = q i
instance (n m p q) : Decidable (SameP n m p q) := by unfold SameP; infer_instance

set_option maxHeartbeats 1600000 in
theorem same_any (a a' : Option Addr) (n m c c' : Nat) (p q : Nat → Int × Int) (w : World) (hm : n ≤ 4611686018427387904) (hm' : m ≤ 4611686018427387904) (h : Pts w a n p) (h' : Pts w a' m q) :
    Calls Try.prog 20 #[.slice a n c, .slice a' m c'] w (Ret (.bool (decide (SameP n m p q))) w) := by
  by_cases hne : n = m
  · subst hne
    have h := Lib.hid h
    have h' := Lib.hid h'
    go_enter Try.func20, Try.ntmps20
    go_wp2
    go_loopw [5] (fun i wr => ∃ k : Nat, k ≤ n ∧ i = .int .i64 k ∧ (∀ j, j < k → p j = q j) ∧ Below w.heap.size w wr) (fun i _ => n - (intOf i).toNat)
    case atStart => exact ⟨0, by omega, rfl, fun j hj => absurd hj (by omega), Below.refl _ _⟩
    case round =>
      obtain ⟨k, hk, rfl, heq, B0⟩ := hrel
      have heq := Lib.hid heq
      by_cases hlt : k < n
      · have hi0 : (0 : Int) ≤ (k : Int) := by omega
        have hi1 : (k : Int) < (n : Int) := by omega
        obtain ⟨b, off, rfl, hc⟩ := ptsOf h.out (by omega)
        obtain ⟨b', off', rfl, hc'⟩ := ptsOf h'.out (by omega)
        obtain ⟨e0, e1⟩ := hc k hlt
        obtain ⟨f0, f1⟩ := hc' k hlt
        have x0 := cellX (cellB B0 e0)
        have x1 := cellX (cellB B0 e1)
        have y0 := cellX (cellB B0 f0)
        have y1 := cellX (cellB B0 f1)
        clear e0 e1 f0 f1 hc hc'
        go_wp2
        refine wp_region_ext (by kernel_rfl) (by kernel_rfl) ?_
        repeat (go_big_quiet_step (fail))
        refine wpQuiet_nil ?_
        rintro ⟨w1, hw1⟩
        dsimp only
        replace B0 := nextB B0 hw1
        clear x0 x1 y0 y1
        cases g2 : eqP ((p k).1, (p k).2) ((q k).1, (q k).2)
        · go_wp2
          go_ret
          refine Ret.mk (ret_dec ?_) B0
          simp only [Bool.false_eq_true, false_iff]
          intro hs
          exact eqP_not.1 g2 (hs.2 k hlt)
        · go_wp2
          go_roundw
          case rel =>
            refine ⟨k + 1, by omega, by go_num, fun j hj => ?_, B0⟩
            by_cases hjk : j = k
            · subst hjk; exact eqP_iff.1 g2
            · exact heq.out j (by omega)
          case measure => simp [intOf]; omega
      · have e : k = n := by omega
        subst e
        go_wp2
        go_ret
        refine Ret.mk (ret_dec ?_) B0
        simp only [true_iff]
        exact ⟨rfl, heq.out⟩
  · clear h h'
    go_enter Try.func20, Try.ntmps20
    go_wp2
    go_ret
    refine Ret.mk (ret_dec ?_) (Below.refl _ _)
    simp only [Bool.false_eq_true, false_iff]
    exact fun hs => hne hs.1
end Go.Proofs.Ytnjegnlfdbbleaa
