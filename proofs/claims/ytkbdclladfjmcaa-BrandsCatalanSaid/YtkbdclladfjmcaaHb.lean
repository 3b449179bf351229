/- BrandsCatalan: choose. -/
import Derived.Test.YtkbdclladfjmcaaHa
namespace Go.Proofs.Ytkbdclladfjmcaa
open Go Go.RowKit

/-- The number that choose holds after t rounds. -/
def co (N : Nat) : Nat → Int
  | 0 => 1
  | t + 1 => (co N t * ((N : Int) - ((t : Int) + 1) + 1)).tdiv ((t : Int) + 1)
set_option maxRecDepth 100000 in
theorem choose_any (N k : Nat) (w : World) (hN : N ≤ 20) (hk : k ≤ N) (hb : ∀ t, t ≤ k → 0 ≤ co N t ∧ co N t ≤ 10000000) :
    Calls Try.prog 5 #[.int .i64 N, .int .i64 k] w (Only (.int .i64 (co N k)) w) := by
  replace hb := Lib.hid hb
  go_enter Try.func5, Try.ntmps5
  go_wp2
  go_loop [5, 6] (fun o i => ∃ t : Nat, t ≤ k ∧ i = .int .i64 (t + 1 : Nat) ∧ o = .int .i64 (co N t)) (fun _ i => k + 1 - (intOf i).toNat)
  case atStart => exact ⟨0, by omega, rfl, rfl⟩
  case round =>
    obtain ⟨t, ht, rfl, rfl⟩ := hrel
    by_cases hlt : t < k
    · obtain ⟨c0, c1⟩ := hb.out t ht
      have hs : Hid (co N (t + 1) = (co N t * ((N : Int) - ((t : Int) + 1) + 1)).tdiv ((t : Int) + 1)) := Lib.hid rfl
      have hb1 := Lib.hid (hb.out (t + 1) (by omega))
      generalize co N t = x at *
      have m0 : 0 ≤ x * ((N : Int) - ((t : Int) + 1) + 1) := Int.mul_nonneg c0 (by omega)
      have m1 : x * ((N : Int) - ((t : Int) + 1) + 1) ≤ 10000000 * 20 := Int.mul_le_mul c1 (by omega) (by omega) (by omega)
      have e1 : wrap64 (x * ((N : Int) - ((t : Int) + 1) + 1)) = x * ((N : Int) - ((t : Int) + 1) + 1) := by
        generalize x * ((N : Int) - ((t : Int) + 1) + 1) = p at *
        unfold wrap64
        omega
      have e2 : wrap64 (co N (t + 1)) = co N (t + 1) := by
        have := hb1.out
        unfold wrap64
        omega
      rw [hs.out] at e2
      clear m0 m1
      replace e1 := Lib.hid e1
      replace e2 := Lib.hid e2
      go_wp2
      rw [e1.out, e2.out, ← hs.out]
      go_round
      case rel => exact ⟨t + 1, by omega, by go_num, rfl⟩
      case measure => simp [intOf]; omega
    · obtain rfl : t = k := by omega
      go_wp2
      go_ret
      exact Only.mk rfl
end Go.Proofs.Ytkbdclladfjmcaa
