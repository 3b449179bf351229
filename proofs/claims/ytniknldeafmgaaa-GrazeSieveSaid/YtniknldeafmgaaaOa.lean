/- Layer 8, the laws: gcd, choose. -/
import Derived.Test.YtniknldeafmgaaaNi
import Derived.Test.YtniknldeafmgaaaQp
namespace Go.Proofs.Ytniknldeafmgaaa
set_option linter.unusedSimpArgs false
set_option linter.unusedVariables false
open Go Go.RowKit

set_option maxRecDepth 100000 in
theorem gcd_any (x y : Int) (w : World) (hx : -1000 ≤ x ∧ x ≤ 1000) (hy : -1000 ≤ y ∧ y ≤ 1000) : Calls Try.prog 43 #[.int .i64 x, .int .i64 y] w (Only (.int .i64 ((Int.gcd x y : Nat) : Int)) w) := by
  obtain ⟨G, hG⟩ : ∃ G, Hid (Int.gcd x y = G) := ⟨_, Lib.hid rfl⟩
  rw [hG.out]
  go_enter Try.func43, Try.ntmps43
  go_wp2
  go_loop [0, 1, 5] (fun p q _ => ∃ u v : Int, p = .int .i64 u ∧ q = .int .i64 v ∧ (-1000 ≤ u ∧ u ≤ 1000) ∧ (-1000 ≤ v ∧ v ≤ 1000) ∧ Hid (Int.gcd u v = G)) (fun _ q _ => (intOf q).natAbs)
  case atStart => exact ⟨x, y, rfl, rfl, hx, hy, hG⟩
  case round =>
    obtain ⟨u, v, rfl, rfl, hu, hv, hg⟩ := hrel
    obtain ⟨hu1, hu2⟩ := hu
    obtain ⟨hv1, hv2⟩ := hv
    by_cases h0 : v = 0
    · subst h0
      have e : max u (-u) = (G : Int) := by
        have := hg.out
        rw [Int.gcd_zero_right] at this
        omega
      go_wp2
      go_ret
      exact ⟨rfl, rfl⟩
    · have d1 : (v != 0) = true := by rw [bne_iff_ne]; exact h0
      have hm : (u.tmod v).natAbs < v.natAbs := by rw [Int.natAbs_tmod]; exact Nat.mod_lt _ (by omega)
      have hg2 : Hid (Int.gcd v (u.tmod v) = G) := Lib.hid (by rw [gcd_tmod]; exact hg.out)
      replace hm := Lib.hid hm
      go_wp2
      go_round
      case rel => exact ⟨v, u.tmod v, rfl, rfl, ⟨hv1, hv2⟩, by have := hm.out; omega, hg2⟩
      case measure => simp only [intOf]; exact hm.out
set_option maxRecDepth 100000 in
theorem choose_any (n k : Nat) (w : World) (hn : n ≤ 12) (hk : k ≤ n) : Calls Try.prog 44 #[.int .i64 (n : Int), .int .i64 (k : Int)] w (Only (.int .i64 ((chN n k : Nat) : Int)) w) := by
  have hc := Lib.hid (fun i (h : i ≤ n) => chN_le hn h)
  have hs : Hid (∀ i, chN n (i + 1) = chN n i * (n - i) / (i + 1)) := Lib.hid (fun _ => rfl)
  have h0 : Hid (chN n 0 = 1) := Lib.hid rfl
  go_enter Try.func44, Try.ntmps44
  go_wp2
  go_loop [5, 6] (fun p q => ∃ i : Nat, ∃ z : Int, i ≤ k ∧ p = .int .i64 ((chN n i : Nat) : Int) ∧ q = .int .i64 z ∧ z = (i : Int) + 1) (fun _ q => k + 1 - (intOf q).toNat)
  case atStart => exact ⟨0, 1, Nat.zero_le _, by rw [h0.out]; rfl, rfl, rfl⟩
  case round =>
    obtain ⟨i, z, hi, rfl, rfl, hz⟩ := hrel
    have hci := hc.out i (by omega)
    by_cases hlt : i < k
    · have hs1 := hs.out i
      have hci2 := hc.out (i + 1) (by omega)
      generalize chN n i = x at *
      have hzk : z ≤ (k : Int) := by omega
      have hz0 : z ≠ 0 := by omega
      have hz1 : 1 ≤ z := by omega
      have hp : (x : Int) * ((n : Int) - z + 1) = ((x * (n - i) : Nat) : Int) := by
        rw [hz, show (n : Int) - ((i : Int) + 1) + 1 = ((n - i : Nat) : Int) by omega, Int.natCast_mul]
      have hb : x * (n - i) ≤ 12000 := Nat.mul_le_mul (show x ≤ 1000 from hci) (show n - i ≤ 12 by omega)
      have hq : (((x * (n - i) : Nat) : Int)).tdiv z = ((chN n (i + 1) : Nat) : Int) := by
        rw [hs1, hz, show (i : Int) + 1 = ((i + 1 : Nat) : Int) by omega, Int.ofNat_tdiv]
      obtain ⟨P, hP⟩ : ∃ P, Hid (x * (n - i) = P) := ⟨_, Lib.hid rfl⟩
      obtain ⟨C, hC⟩ : ∃ C, Hid (chN n (i + 1) = C) := ⟨_, Lib.hid rfl⟩
      rw [hP.out] at hp hb hq
      rw [hC.out] at hq hci2
      have hzi := Lib.hid (show z + 1 = ((i + 1 : Nat) : Int) + 1 by omega)
      replace hz := Lib.hid hz
      clear hs1
      go_wp2
      go_round
      case rel => exact ⟨i + 1, z + 1, by omega, by rw [hC.out], rfl, hzi.out⟩
      case measure => have := hz.out; simp only [intOf]; omega
    · have hzk : (k : Int) < z := by omega
      obtain rfl : i = k := by omega
      go_wp2
      go_ret
      exact ⟨rfl, rfl⟩
end Go.Proofs.Ytniknldeafmgaaa
