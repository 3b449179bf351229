/- Layer 5, by the specification: least, size, Joined, Knot. -/
import Derived.Test.YtfdaljekehkkaaaGreatDoorPd
import Derived.Test.YtfdaljekehkkaaaGreatDoorJb
namespace Go.Proofs.YtfdaljekehkkaaaGreatDoor
open Go Go.RowKit

theorem tri8_of {m : Nat} {t : T3} (h : isT m t = true) (hm : m ≤ 8) : Tri8 t := by
  unfold isT beaB at h
  simp only [Bool.and_eq_true, decide_eq_true_eq] at h
  obtain ⟨a, b, c⟩ := t
  dsimp only at h
  exact ⟨a.toNat, b.toNat, c.toNat, by simp only [Prod.mk.injEq]; omega, by omega, by omega, by omega⟩
set_option maxRecDepth 100000 in
theorem refLeast_any (s : Nat) (hs : s < 512) (h0 : s ≠ 0) (w : World) : Calls Tryz.prog 44 #[.int .i64 (s : Nat)] w (Only (.int .i64 (lowB s : Nat)) w) := by
  obtain ⟨l1, l2⟩ := low_is hs h0
  have h9 := (bits_step s hs (Nat.pos_of_ne_zero h0)).2.1
  generalize lowB s = b at *
  replace l2 := Lib.hid l2
  go_enter Tryz.func44, Tryz.ntmps44
  go_wp2
  go_loop [3] (fun i => ∃ k : Nat, k ≤ b ∧ i = .int .i64 k) (fun i => b + 1 - (intOf i).toNat)
  case atStart => exact ⟨0, by omega, rfl⟩
  case round =>
    obtain ⟨k, hk, rfl⟩ := hrel
    have rm := shr_bit s k
    by_cases hlt : k < b
    · rw [l2.out k hlt] at rm
      simp only [Bool.false_eq_true, if_false] at rm
      go_wp2
      go_round
      case rel => exact ⟨k + 1, by omega, by go_num⟩
      case measure => simp [intOf]; omega
    · obtain rfl : k = b := by omega
      rw [l1] at rm
      simp only [if_true] at rm
      go_wp2
      go_ret
      exact Only.mk rfl
theorem cnt_stop : ((List.range 512).all fun s => (List.range 10).all fun k => decide (s / 2 ^ k = 0 → cntF s k = cntF s 9)) = true := by decide +kernel
theorem cnt_stop' {s k : Nat} (hs : s < 512) (hk : k ≤ 9) (h : s / 2 ^ k = 0) : cntF s k = cntF s 9 := by
  have h1 := List.all_eq_true.1 cnt_stop s (List.mem_range.2 hs)
  have h2 := List.all_eq_true.1 h1 k (List.mem_range.2 (by omega))
  exact (of_decide_eq_true h2) h
end Go.Proofs.YtfdaljekehkkaaaGreatDoor
