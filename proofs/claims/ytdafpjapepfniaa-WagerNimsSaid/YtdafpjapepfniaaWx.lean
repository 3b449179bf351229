/- Layer 7, the laws: heaps made of numbers; the index of a Fibonacci number; WagerPlayed. -/
import Derived.Test.YtdafpjapepfniaaWw
namespace Go.Proofs.Ytdafpjapepfniaa
set_option linter.unusedSimpArgs false
set_option linter.unusedVariables false
open Go Go.RowKit

/-- The heap made of a number. -/
def hpN (n : Nat) : Nat := n % 1099511627777
theorem hpN_le (n : Nat) : hpN n ≤ 1099511627776 := by unfold hpN; omega
theorem heap_any (n : Nat) (w : World) (h : n ≤ 18446744073709551615) : Calls Try.prog 38 #[.int .u64 (n : Int)] w (Only (.int .i64 ((hpN n : Nat) : Int)) w) := by
  have e : (n : Int) % 1099511627777 = ((hpN n : Nat) : Int) := by unfold hpN; omega
  have hl := hpN_le n
  generalize hpN n = m at *
  go_enter Try.func38, Try.ntmps38
  go_wp2
  go_ret
  exact Only.mk (by first | rfl | (show Value.int .i64 ((n : Int) % 1099511627777) = _; rw [e]))
theorem index_yes (i n : Nat) (w : World) (hi : fb i = n) (hn : n ≤ 1099511627776) : Calls Try.prog 39 #[.int .i64 (n : Int)] w (Only (.int .i64 (i : Int)) w) := by
  have hi58 : i < 58 := fb_grows (by rw [hi]; exact Nat.le_refl _) hn
  go_enter Try.func39, Try.ntmps39
  go_wp2
  go_loop [3, 4, 5, 6] (fun a b j _ => ∃ k : Nat, ∃ x y : Nat, k ≤ i ∧ a = .int .i64 x ∧ b = .int .i64 y ∧ j = .int .i64 k ∧ Hid (x = fb k ∧ y = fb (k + 1))) (fun _ _ j _ => i - (intOf j).toNat)
  case atStart => exact ⟨0, 1, 2, by omega, rfl, rfl, rfl, Lib.hid ⟨rfl, rfl⟩⟩
  case round =>
    obtain ⟨k, x, y, hk, rfl, rfl, rfl, hxy⟩ := hrel
    have hx : x ≤ n := by have := fb_mono hk; have := hxy.out.1; omega
    have hx' : (x : Int) ≤ (n : Int) := by omega
    have hy : y ≤ 2 * x := by have := fb_half k; have := hxy.out; omega
    by_cases hlt : k < i
    · have hne : ((x : Int) == (n : Int)) = false := by
        rw [beq_eq_false_iff_ne]
        intro e
        have h1 := fb_mono (show k + 1 ≤ i by omega)
        have h2 := fb_lt k
        have := hxy.out.1
        omega
      go_wp2
      go_round
      case rel => exact ⟨k + 1, y, x + y, by omega, rfl, by go_num, by go_num, Lib.hid ⟨hxy.out.2, by rw [hxy.out.1, hxy.out.2, fb_succ]⟩⟩
      case measure => simp [intOf]; omega
    · obtain rfl : k = i := by omega
      have he : ((x : Int) == (n : Int)) = true := by rw [beq_iff_eq]; have := hxy.out.1; omega
      go_wp2
      go_ret
      exact Only.mk rfl
theorem index_no (n : Nat) (w : World) (h : ∀ i, fb i ≠ n) (hn : n ≤ 1099511627776) : Calls Try.prog 39 #[.int .i64 (n : Int)] w (Only (.int .i64 (-1)) w) := by
  have h := Lib.hid h
  go_enter Try.func39, Try.ntmps39
  go_wp2
  go_loop [3, 4, 5, 6] (fun a b j _ => ∃ k : Nat, ∃ x y : Nat, k ≤ 58 ∧ a = .int .i64 x ∧ b = .int .i64 y ∧ j = .int .i64 k ∧ y ≤ 4000000000000 ∧ Hid (x = fb k ∧ y = fb (k + 1))) (fun _ _ j _ => 58 - (intOf j).toNat)
  case atStart => exact ⟨0, 1, 2, by omega, rfl, rfl, rfl, by omega, Lib.hid ⟨rfl, rfl⟩⟩
  case round =>
    obtain ⟨k, x, y, hk, rfl, rfl, rfl, hy4, hxy⟩ := hrel
    have hy : y ≤ 2 * x := by have := fb_half k; have := hxy.out; omega
    by_cases hlt : x ≤ n
    · have hx' : (x : Int) ≤ (n : Int) := by omega
      have hk58 : k < 58 := fb_grows (by have := hxy.out.1; omega) hn
      have hne : ((x : Int) == (n : Int)) = false := by
        rw [beq_eq_false_iff_ne]
        intro e
        exact h.out k (by have := hxy.out.1; omega)
      go_wp2
      go_round
      case rel => exact ⟨k + 1, y, x + y, by omega, rfl, by go_num, by go_num, by omega, Lib.hid ⟨hxy.out.2, by rw [hxy.out.1, hxy.out.2, fb_succ]⟩⟩
      case measure => simp [intOf]; omega
    · have hx' : (n : Int) < (x : Int) := by omega
      go_wp2
      go_ret
      exact Only.mk rfl
end Go.Proofs.Ytdafpjapepfniaa
