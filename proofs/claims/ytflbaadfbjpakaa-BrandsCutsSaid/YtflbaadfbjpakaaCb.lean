/- Layer 2: Count, by the program and by the specification. -/
import Derived.Test.YtflbaadfbjpakaaCa
namespace Go.Proofs.Ytflbaadfbjpakaa
open Go Go.RowKit

/-- The Catalan numbers. -/
def catT (t : Nat) : Int := [0, 1, 2, 5, 14, 42, 132, 429, 1430, 4862, 16796].getD t 0
theorem Count_out (n : Int) (w : World) (h : n < 3 ∨ 12 < n) : Calls Try.prog 42 #[.int .i64 n] w (Only (.tuple #[.int .i64 0, .int .i64 2]) w) := by
  rcases h with h | h
  all_goals
    go_enter Try.func42, Try.ntmps42
    go_wp2
    go_ret2
    exact Only.mk rfl
theorem refCount_out (n : Int) (w : World) (h : n < 3 ∨ 12 < n) : Calls Try.prog 43 #[.int .i64 n] w (Only (.tuple #[.int .i64 0, .int .i64 2]) w) := by
  rcases h with h | h
  all_goals
    go_enter Try.func43, Try.ntmps43
    go_wp2
    go_ret2
    exact Only.mk rfl
set_option maxRecDepth 100000 in
set_option maxHeartbeats 1600000 in
theorem Count_in (n : Nat) (w : World) (h3 : 3 ≤ n) (h12 : n ≤ 12) : Calls Try.prog 42 #[.int .i64 n] w (Only (.tuple #[.int .i64 (catT (n - 2)), .int .i64 0]) w) := by
  go_enter Try.func42, Try.ntmps42
  go_wp2
  go_loop [4, 5] (fun c i => ∃ t : Nat, 1 ≤ t ∧ t ≤ n - 2 ∧ i = .int .i64 (t + 1 : Nat) ∧ c = .int .i64 (catT t)) (fun _ i => n - (intOf i).toNat)
  case atStart => exact ⟨1, by omega, by omega, rfl, rfl⟩
  case round =>
    obtain ⟨t, ht1, ht, rfl, rfl⟩ := hrel
    by_cases hlt : t < n - 2
    · have hc : ∃ u : Int, catT t = u ∧ 0 ≤ u ∧ u ≤ 16796 ∧ u * (4 * ((t : Int) + 1) - 2) / ((t : Int) + 2) = catT (t + 1) ∧ 0 ≤ u * (4 * ((t : Int) + 1) - 2) ∧ u * (4 * ((t : Int) + 1) - 2) ≤ 1000000 := by
        have : t = 1 ∨ t = 2 ∨ t = 3 ∨ t = 4 ∨ t = 5 ∨ t = 6 ∨ t = 7 ∨ t = 8 ∨ t = 9 := by omega
        rcases this with rfl | rfl | rfl | rfl | rfl | rfl | rfl | rfl | rfl <;> exact ⟨_, rfl, by decide⟩
      obtain ⟨u, e, u0, u1, e2, u2, u3⟩ := hc
      rw [e]
      replace e2 := Lib.hid e2
      clear e
      have hi0 : (t : Int) + 1 ≤ (n : Int) - 2 := by omega
      go_wp2
      go_round
      case rel => exact ⟨t + 1, by omega, by omega, by go_num, by rw [← e2.out]; rfl⟩
      case measure => simp [intOf]; omega
    · obtain rfl : t = n - 2 := by omega
      have hi0 : (n : Int) - 2 < ((n - 2 : Nat) : Int) + 1 := by omega
      go_wp2
      go_ret2
      exact Only.mk rfl
end Go.Proofs.Ytflbaadfbjpakaa
