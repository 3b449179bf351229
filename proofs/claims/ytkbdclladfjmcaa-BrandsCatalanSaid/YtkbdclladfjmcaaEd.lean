/- Layer 2: all numbers; Between and Closed, by both sides. -/
import Derived.Test.YtkbdclladfjmcaaEb
import Derived.Test.YtkbdclladfjmcaaEc
namespace Go.Proofs.Ytkbdclladfjmcaa
open Go Go.RowKit

/-- The numbers from the corners below k on. -/
def upN (xs : List Int) (n : Nat) : Nat → Int → Int → Int
  | 0 => fun _ _ => 0
  | k + 1 => part (upN xs n k) xs k n
theorem upN_at (xs : List Int) (n : Nat) : ∀ (k i d : Nat), i < k → d ≤ n → ∀ a b : Int, a = i → b = (i : Int) + d → upN xs n k a b = eD xs i d := by
  intro k
  induction k with
  | zero => intro i d hi; omega
  | succ k ih =>
    intro i d hi hd a b ha hb
    rw [upN]
    by_cases e : i = k
    · subst e; rw [ha]; exact part_at _ _ hd hb
    · unfold part
      rw [if_neg (by omega)]
      exact ih i d (by omega) hd a b ha hb
/-- The arguments of Between that are allowed. -/
def BtwP (xs : List Int) (i k : Int) : Prop := RoundP xs ∧ CornP xs.length i ∧ i ≤ k ∧ k ≤ i + xs.length
end Go.Proofs.Ytkbdclladfjmcaa
