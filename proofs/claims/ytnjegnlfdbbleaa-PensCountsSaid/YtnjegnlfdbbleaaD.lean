/- Layer 1: the greatest common divisor, twice. -/
import Derived.Test.YtnjegnlfdbbleaaC
namespace Go.Proofs.Ytnjegnlfdbbleaa
open Go Go.RowKit

theorem gcd_step (x y : Int) (h : y ≠ 0) : Nat.gcd y.natAbs (x.tmod y).natAbs = Nat.gcd x.natAbs y.natAbs := by
  rw [Int.natAbs_tmod, Nat.gcd_comm x.natAbs, Nat.gcd_rec y.natAbs x.natAbs, Nat.gcd_comm]
theorem tmod_lt (x y : Int) (h : y ≠ 0) : (x.tmod y).natAbs < y.natAbs := by
  rw [Int.natAbs_tmod]; exact Nat.mod_lt _ (by omega)

set_option maxHeartbeats 800000 in
theorem steps_any0 (G : Nat) (a0 a1 b0 b1 : Int) (hG : Nat.gcd (b0 - a0).natAbs (b1 - a1).natAbs = G) (w : World) (ha : Sm 1048576 (a0, a1)) (hb : Sm 1048576 (b0, b1)) :
    Calls Try.prog 61 #[.agg #[.int .i64 a0, .int .i64 a1], .agg #[.int .i64 b0, .int .i64 b1]] w
      (Ret (.int .i64 G) w) := by
  have HG := Lib.hid hG
  clear hG
  obtain ⟨ha0, ha0', ha1, ha1'⟩ := ha
  obtain ⟨hb0, hb0', hb1, hb1'⟩ := hb
  simp only [] at *
  go_enter Try.func61, Try.ntmps61
  go_wp2
  have B0 := b2 w (.cells #[.int .i64 a0, .int .i64 a1] 65) (.cells #[.int .i64 b0, .int .i64 b1] 65)
  have e00 : ((w.alloc (.cells #[.int .i64 a0, .int .i64 a1] 65)).alloc (.cells #[.int .i64 b0, .int .i64 b1] 65)).cell? ⟨w.heap.size, 0, none⟩ = some (.int .i64 a0) := by go_simp
  have e01 : ((w.alloc (.cells #[.int .i64 a0, .int .i64 a1] 65)).alloc (.cells #[.int .i64 b0, .int .i64 b1] 65)).cell? ⟨w.heap.size, 1, none⟩ = some (.int .i64 a1) := by go_simp
  have e10 : ((w.alloc (.cells #[.int .i64 a0, .int .i64 a1] 65)).alloc (.cells #[.int .i64 b0, .int .i64 b1] 65)).cell? ⟨w.heap.size + 1, 0, none⟩ = some (.int .i64 b0) := by go_simp
  have e11 : ((w.alloc (.cells #[.int .i64 a0, .int .i64 a1] 65)).alloc (.cells #[.int .i64 b0, .int .i64 b1] 65)).cell? ⟨w.heap.size + 1, 1, none⟩ = some (.int .i64 b1) := by go_simp
  have x00 := cellX e00
  have x01 := cellX e01
  have x10 := cellX e10
  have x11 := cellX e11
  refine wp_region_ext (by kernel_rfl) (by kernel_rfl) ?_
  repeat (go_big_quiet_step (fail))
  refine wpQuiet_nil ?_
  rintro ⟨w1, hw1⟩
  dsimp only
  replace B0 := nextB B0 hw1
  clear x00 x01 x10 x11 e00 e01 e10 e11
  go_wp2
  go_loopw [5, 6] (fun x y wr => ∃ X Y : Int, x = .int .i64 X ∧ y = .int .i64 Y ∧ -2097152 ≤ X ∧ X ≤ 2097152 ∧ -2097152 ≤ Y ∧ Y ≤ 2097152 ∧ Hid (Nat.gcd X.natAbs Y.natAbs = G) ∧ Below w.heap.size w wr)
    (fun _ y _ => (intOf y).natAbs)
  case atStart => exact ⟨_, _, rfl, rfl, by omega, by omega, by omega, by omega, HG, B0⟩
  case round =>
    clear HG B0
    obtain ⟨X, Y, rfl, rfl, hx0, hx1, hy0, hy1, hG, B0⟩ := hrel
    by_cases hY : Y = 0
    · subst hY
      have hg := hG.out
      simp only [Int.natAbs_zero, Nat.gcd_zero_right] at hg
      clear hG
      have hg := Lib.hid hg
      go_wp2
      all_goals
        go_ret
        refine Ret.mk ?_ B0
        have := hg.out
        first | exact congrArg (Value.int .i64) (show -X = (G : Int) by omega) | exact congrArg (Value.int .i64) (show X = (G : Int) by omega)
    · have hr0 : (Y == 0) = false := by simpa using hY
      have hr1 : (Y != 0) = true := by simpa using hY
      have hl := tmod_lt X Y hY
      have hs := Lib.hid (gcd_step X Y hY)
      go_wp2
      refine wp_region_ext (by kernel_rfl) (by kernel_rfl) ?_
      repeat (go_big_quiet_step (fail))
      refine wpQuiet_nil ?_
      rintro ⟨w1, hw1⟩
      dsimp only
      replace B0 := nextB B0 hw1
      go_wp2
      go_roundw
      case rel => exact ⟨Y, X.tmod Y, rfl, rfl, by omega, by omega, by omega, by omega, hs.out.trans hG, B0⟩
      case measure => simpa [intOf] using hl
theorem steps_any (a0 a1 b0 b1 : Int) (w : World) (ha : Sm 1048576 (a0, a1)) (hb : Sm 1048576 (b0, b1)) :
    Calls Try.prog 61 #[.agg #[.int .i64 a0, .int .i64 a1], .agg #[.int .i64 b0, .int .i64 b1]] w
      (Ret (.int .i64 (Nat.gcd (b0 - a0).natAbs (b1 - a1).natAbs)) w) := steps_any0 _ _ _ _ _ rfl _ ha hb

set_option maxHeartbeats 800000 in
theorem gcd_any0 (G : Nat) (a b : Int) (hG : Nat.gcd a.natAbs b.natAbs = G) (w : World) (ha : -2097152 ≤ a) (ha' : a ≤ 2097152) (hb : -2097152 ≤ b) (hb' : b ≤ 2097152) :
    Calls Try.prog 62 #[.int .i64 a, .int .i64 b] w (Ret (.int .i64 G) w) := by
  have HG := Lib.hid hG
  clear hG
  go_enter Try.func62, Try.ntmps62
  go_wp2
  all_goals
    go_loop [0, 1, 5] (fun x y _ => ∃ X Y : Int, x = .int .i64 X ∧ y = .int .i64 Y ∧ 0 ≤ X ∧ X ≤ 2097152 ∧ 0 ≤ Y ∧ Y ≤ 2097152 ∧ Hid (Nat.gcd X.natAbs Y.natAbs = G))
      (fun _ y _ => (intOf y).natAbs)
    case atStart => exact ⟨_, _, rfl, rfl, by omega, by omega, by omega, by omega, Lib.hid (by simpa [Int.natAbs_neg] using HG.out)⟩
    case round =>
      clear HG
      obtain ⟨X, Y, rfl, rfl, hx0, hx1, hy0, hy1, hG⟩ := hrel
      by_cases hY : Y = 0
      · subst hY
        have hg := hG.out
        simp only [Int.natAbs_zero, Nat.gcd_zero_right] at hg
        clear hG
        have hg := Lib.hid hg
        go_wp2
        go_ret
        refine Ret.mk ?_ (Below.refl _ _)
        have := hg.out
        exact congrArg (Value.int .i64) (show X = (G : Int) by omega)
      · have hl := tmod_lt X Y hY
        have hs := Lib.hid (gcd_step X Y hY)
        have hy2 : 0 < Y := by omega
        have hm : X.tmod Y = X % Y := Int.tmod_eq_emod_of_nonneg hx0
        have hm0 : 0 ≤ X % Y := Int.emod_nonneg _ (by omega)
        have hm1 : X % Y < Y := Int.emod_lt_of_pos _ hy2
        rw [hm] at hl hs
        clear hm
        go_wp2
        go_round
        case rel => exact ⟨Y, X % Y, rfl, rfl, by omega, by omega, by omega, by omega, hs.out.trans hG⟩
        case measure => simpa [intOf] using hl
theorem gcd_any (a b : Int) (w : World) (ha : -2097152 ≤ a) (ha' : a ≤ 2097152) (hb : -2097152 ≤ b) (hb' : b ≤ 2097152) :
    Calls Try.prog 62 #[.int .i64 a, .int .i64 b] w (Ret (.int .i64 (Nat.gcd a.natAbs b.natAbs)) w) := gcd_any0 _ _ _ rfl _ ha ha' hb hb'

theorem square_any (w : World) : Calls Try.prog 33 #[] w fun e w' => e = .returned (.slice (some ⟨w.heap.size, 0, none⟩) 4 4) ∧
    w' = w.alloc (.cells #[.int .i64 0, .int .i64 0, .int .i64 2, .int .i64 0, .int .i64 2, .int .i64 2, .int .i64 0, .int .i64 2] 32) := by
  go_enter Try.func33, Try.ntmps33
  go_wp2
  go_ret
  exact ⟨rfl, rfl⟩
end Go.Proofs.Ytnjegnlfdbbleaa
