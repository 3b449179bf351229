/- Layer 5, by the specification: Count. -/
import Derived.Test.YtmejahoodeeijaaDoorQa
import Derived.Test.YtmejahoodeeijaaDoorEd
namespace Go.Proofs.YtmejahoodeeijaaDoor
open Go Go.RowKit

/-- The trees of some beasts; one tree or more of them. -/
def T1 : List Int := [0, 1, 1, 4, 26, 236, 2752, 39208, 660032]
def T2 : List Int := [1, 1, 2, 8, 52, 472, 5504, 78416, 1320064]
/-- The sum, up to a k. -/
def sumC (m : Nat) : Nat → Int
  | 0 => 0
  | 1 => 0
  | k + 2 => sumC m (k + 1) + co (m - 1) k * nth T1 (k + 1) * nth T2 (m - (k + 1))
theorem sumC_end : ∀ m, m < 9 → 2 ≤ m → sumC m m = nth T1 m := by decide +kernel
theorem T2_end : ∀ m, m < 9 → 2 ≤ m → nth T2 m = 2 * nth T1 m := by decide +kernel
theorem co_bd : ∀ N, N < 8 → ∀ t, t < 9 → 0 ≤ co N t ∧ co N t ≤ 1000 := by decide +kernel
theorem T1_bd : ∀ m, m < 9 → 0 ≤ nth T1 m ∧ nth T1 m ≤ 700000 := by decide +kernel
theorem T2_bd : ∀ m, m < 9 → 0 ≤ nth T2 m ∧ nth T2 m ≤ 1400000 := by decide +kernel
theorem sumC_bd : ∀ m, m < 9 → ∀ k, k < 9 → 0 ≤ sumC m k ∧ sumC m k ≤ 100000000000 := by decide +kernel
theorem cntE_T1 : ∀ m, m < 9 → 1 ≤ m → ((sumF (trC (m - 1)) m : Nat) : Int) = nth T1 m := by decide +kernel
end Go.Proofs.YtmejahoodeeijaaDoor
