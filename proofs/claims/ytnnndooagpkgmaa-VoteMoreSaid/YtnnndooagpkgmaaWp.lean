/- Layer 3, by the specification: Ratio. -/
import Derived.Test.YtnnndooagpkgmaaWo
namespace Go.Proofs.Ytnnndooagpkgmaa
open Go Go.RowKit

set_option maxRecDepth 100000 in
set_option maxHeartbeats 1600000 in
theorem refGcd_nat (x y : Nat) (w : World) (hx : x ≤ 1000000000000) (hy : y ≤ 1000000000000) :
    Calls Try.prog 72 #[.int .i64 (x : Nat), .int .i64 (y : Nat)] w (Only (.int .i64 ((Nat.gcd x y : Nat) : Int)) w) := by
  have n1 : IntKind.i64.wrap (-(x : Int)) = -(x : Int) := IntWalk.i64_in _ (by omega)
  have n2 : IntKind.i64.wrap (-(y : Int)) = -(y : Int) := IntWalk.i64_in _ (by omega)
  have m1 : max (x : Int) (-(x : Int)) = (x : Int) := by omega
  have m2 : max (y : Int) (-(y : Int)) = (y : Int) := by omega
  go_enter Try.func72, Try.ntmps72
  go_wp2
  go_loop [0, 1, 5] (fun a b _ => ∃ p q : Nat, a = .int .i64 p ∧ b = .int .i64 q ∧ p ≤ 1000000000000 ∧ q ≤ 1000000000000 ∧ Nat.gcd p q = Nat.gcd x y) (fun _ b _ => (intOf b).toNat)
  case atStart => exact ⟨x, y, rfl, rfl, hx, hy, rfl⟩
  case round =>
    obtain ⟨p, q, rfl, rfl, hp, hq, hg⟩ := hrel
    replace hg := Lib.hid hg
    by_cases hq0 : q = 0
    · subst hq0
      have hpg : Hid (p = Nat.gcd x y) := Lib.hid (by rw [← hg.out, Nat.gcd_zero_right])
      go_wp2
      go_ret
      exact Only.mk (show Value.int .i64 (p : Int) = _ by rw [← hpg.out])
    · have hqi : decide (0 < (q : Int)) = true := decide_eq_true (by omega)
      have hqp : 0 < q := by omega
      have k1 : (p : Int).tmod (q : Int) = ((p % q : Nat) : Int) := by rw [Int.natCast_emod]; exact Int.tmod_eq_emod_of_nonneg (by omega)
      have k2 : (p : Int) % (q : Int) = ((p % q : Nat) : Int) := (Int.natCast_emod _ _).symm
      have k3 : p % q < q := Nat.mod_lt _ (by omega)
      have hqz : ((q : Int) == 0) = false := by rw [beq_eq_false_iff_ne]; omega
      have hgg := Lib.hid (show Nat.gcd q (p % q) = Nat.gcd x y by rw [← hg.out, Nat.gcd_comm p q, Nat.gcd_comm q (p % q), ← Nat.gcd_rec])
      generalize p % q = z at *
      have hzw : IntKind.i64.wrap (z : Int) = (z : Int) := IntWalk.i64_in _ (by omega)
      go_wp2
      go_round
      case rel => exact ⟨q, z, rfl, rfl, by omega, by omega, hgg.out⟩
      case measure => simp [intOf]; omega
set_option maxRecDepth 100000 in
set_option maxHeartbeats 1600000 in
theorem refRatio_any (x y : Nat) (w : World) (hx : x ≤ 1000000000000) (hy : 1 ≤ y) (hy2 : y ≤ 40320) :
    Calls Try.prog 53 #[.int .i64 (x : Nat), .int .i64 (y : Nat)] w (Ret (ratV ((x / Nat.gcd x y : Nat) : Int) ((y / Nat.gcd x y : Nat) : Int)) w) := by
  have K := Lib.hid (fun W => refGcd_nat x y W hx (by omega))
  have hpp : 0 < Nat.gcd x y := Nat.gcd_pos_of_pos_right _ hy
  generalize Nat.gcd x y = p at *
  have d1 : (x : Int).tdiv (p : Int) = ((x / p : Nat) : Int) := (Int.ofNat_tdiv _ _).symm
  have d2 : (y : Int).tdiv (p : Int) = ((y / p : Nat) : Int) := (Int.ofNat_tdiv _ _).symm
  have d3 : x / p ≤ x := Nat.div_le_self _ _
  have d4 : y / p ≤ y := Nat.div_le_self _ _
  have d5 : (x : Int) / (p : Int) = ((x / p : Nat) : Int) := (Int.natCast_ediv _ _).symm
  have d6 : (y : Int) / (p : Int) = ((y / p : Nat) : Int) := (Int.natCast_ediv _ _).symm
  have hpi : ((p : Int) == 0) = false := by rw [beq_eq_false_iff_ne]; omega
  generalize x / p = u at *
  generalize y / p = v at *
  have hu : IntKind.i64.wrap (u : Int) = (u : Int) := IntWalk.i64_in _ (by omega)
  have hv : IntKind.i64.wrap (v : Int) = (v : Int) := IntWalk.i64_in _ (by omega)
  have B0 := b1 w (.cells #[.int .i64 0, .int .i64 0] 38)
  have hR := Lib.hid (Blk.new w 38 #[.int .i64 0, .int .i64 0])
  go_enter Try.func53, Try.ntmps53
  go_wp2_with (go_at_call 72; refine (K.out _).mono ?_; rintro e w1 ⟨rfl, rfl⟩)
  have r0 := hR.out.c 0 rfl
  have r1 := hR.out.c 1 rfl
  have f0 := hR.out.fr 0
  have f1 := hR.out.fr 1
  refine wp_region_ext_tail 7 (by kernel_rfl) (by kernel_rfl) ?_
  simp only [List.take_succ_cons, List.take_zero, List.drop_succ_cons, List.drop_zero]
  repeat (go_big_quiet_step (fail))
  refine wpQuiet_nil ?_
  rintro ⟨w1, hw1⟩
  dsimp only
  have hR2 := hR.out.ext hw1
  replace r0 := cellB hw1 r0
  replace r1 := cellB hw1 r1
  clear f0 f1
  have f0' := hR2.fr 0
  have f1' := hR2.fr 1
  have hS2 := hR2.set2 (.int .i64 (u : Nat)) (.int .i64 (v : Nat))
  have t0 := hS2.c 0 rfl
  have t1 := hS2.c 1 rfl
  replace hS2 := Lib.hid hS2
  replace hR2 := Lib.hid hR2
  replace B0 := nextB B0 hw1
  go_wp2
  refine bodyPost_ret (v := ratV (u : Nat) (v : Nat)) (by simp [results, Try.results53, go_sem, t0, t1]) rfl ?_
  exact Ret.mk rfl ((B0.setCell (Nat.le_refl _) _).setCell (Nat.le_refl _) _)
end Go.Proofs.Ytnnndooagpkgmaa
