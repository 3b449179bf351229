/- Layer 3, by the program: factorials, ratios, and in how many orders each drover turns. -/
import Derived.Test.YtnnndooagpkgmaaVu
namespace Go.Proofs.Ytnnndooagpkgmaa
open Go Go.RowKit

def fac : Nat → Nat
  | 0 => 1
  | k + 1 => fac k * (k + 1)
theorem fac_pos (k : Nat) : 1 ≤ fac k := by
  induction k with
  | zero => exact Nat.le_refl _
  | succ k ih => rw [fac]; exact Nat.le_trans ih (Nat.le_mul_of_pos_right _ (by omega))
theorem fac_mono {a b : Nat} (h : a ≤ b) : fac a ≤ fac b := by
  induction b with
  | zero => have : a = 0 := by omega
            rw [this]; exact Nat.le_refl _
  | succ b ih =>
    by_cases e : a = b + 1
    · rw [e]; exact Nat.le_refl _
    · exact Nat.le_trans (ih (by omega)) (by rw [fac]; exact Nat.le_mul_of_pos_right _ (by omega))
theorem fac_le {k : Nat} (h : k ≤ 8) : fac k ≤ 40320 := by have := fac_mono h; simpa [fac] using this
theorem factorial_any (n : Nat) (w : World) (h : n ≤ 8) : Calls Try.prog 50 #[.int .i64 (n : Nat)] w (Only (.int .i64 ((fac n : Nat) : Int)) w) := by
  go_enter Try.func50, Try.ntmps50
  go_wp2
  go_loop [3, 4] (fun p f => ∃ k : Nat, 2 ≤ k ∧ (k ≤ n + 1 ∨ k = 2) ∧ f = .int .i64 k ∧ p = .int .i64 ((fac (k - 1) : Nat) : Int)) (fun _ f => n + 1 - (intOf f).toNat)
  case atStart => exact ⟨2, by omega, .inr rfl, rfl, rfl⟩
  case round =>
    obtain ⟨k, hk, hk2, rfl, rfl⟩ := hrel
    by_cases hlt : k ≤ n
    · obtain ⟨j, rfl⟩ : ∃ j, k = j + 1 := ⟨k - 1, by omega⟩
      have hf : Hid (fac (j + 1) = fac j * (j + 1)) := Lib.hid rfl
      have hb := fac_le (k := j) (by omega)
      have hb2 := Lib.hid (fac_le (k := j + 1) (by omega))
      simp only [Nat.add_sub_cancel]
      generalize fac j = p at *
      have hm2 : (p : Int) * ((j : Int) + 1) = ((fac (j + 1) : Nat) : Int) := by rw [hf.out, Int.natCast_mul]; rfl
      have hm : wrap64 ((p : Int) * ((j : Int) + 1)) = ((fac (j + 1) : Nat) : Int) := by
        rw [hm2]
        exact IntWalk.wrap64_in _ ⟨by omega, by have := hb2.out; omega⟩
      have hq := Lib.hid (show fac (j + 1 + 1 - 1) = fac (j + 1) from rfl)
      generalize fac (j + 1) = q at *
      have hle : ((j + 1 : Nat) : Int) ≤ (n : Int) := by omega
      have h0 : (0 : Int) ≤ (p : Int) := by omega
      replace hb2 := hb2.out
      go_wp2
      go_round
      case rel => exact ⟨j + 1 + 1, by omega, .inl (by omega), by go_num, by rw [hq.out]⟩
      case measure => simp [intOf]; omega
    · have hle : ¬ ((k : Int) ≤ (n : Int)) := by omega
      have hq : fac (k - 1) = fac n := by
        rcases hk2 with h2 | h2
        · rw [show k - 1 = n by omega]
        · subst h2
          have : n = 0 ∨ n = 1 := by omega
          rcases this with rfl | rfl <;> rfl
      have hq := Lib.hid hq
      go_wp2
      go_ret
      first | exact Only.mk rfl | exact Only.mk (show Value.int .i64 ((fac (k - 1) : Nat) : Int) = _ by rw [hq.out])
abbrev ratV (a b : Int) : Value := .agg #[.int .i64 a, .int .i64 b]
set_option maxRecDepth 100000 in
set_option maxHeartbeats 1600000 in
theorem ratio_any (x y : Nat) (w : World) (hx : x ≤ 1000000000000) (hy : 1 ≤ y) (hy2 : y ≤ 40320) :
    Calls Try.prog 49 #[.int .i64 (x : Nat), .int .i64 (y : Nat)] w (Ret (ratV ((x / Nat.gcd x y : Nat) : Int) ((y / Nat.gcd x y : Nat) : Int)) w) := by
  go_enter Try.func49, Try.ntmps49
  go_wp2
  have hb0 := b1 w (.cells #[.int .i64 0, .int .i64 0] 38)
  have hR0 := Blk.new w 38 #[.int .i64 0, .int .i64 0]
  go_loopw [5, 6] (fun a b wr => ∃ p q : Nat, a = .int .i64 p ∧ b = .int .i64 q ∧ p ≤ 1000000000000 ∧ q ≤ 1000000000000 ∧ Nat.gcd p q = Nat.gcd x y ∧ Blk wr w.heap.size 38 #[.int .i64 0, .int .i64 0] ∧ Below w.heap.size w wr) (fun _ b _ => (intOf b).toNat)
  case atStart => exact ⟨x, y, rfl, rfl, hx, by omega, rfl, hR0, hb0⟩
  case round =>
    clear hb0 hR0
    obtain ⟨p, q, rfl, rfl, hp, hq, hg, hR, B0⟩ := hrel
    replace hg := Lib.hid hg
    by_cases hq0 : q = 0
    · subst hq0
      have hpg : Hid (p = Nat.gcd x y) := Lib.hid (by rw [← hg.out, Nat.gcd_zero_right])
      have hpp : 0 < p := by rw [hpg.out]; exact Nat.gcd_pos_of_pos_right _ hy
      have huv : Hid (x / Nat.gcd x y = x / p ∧ y / Nat.gcd x y = y / p) := Lib.hid (by rw [← hpg.out]; exact ⟨rfl, rfl⟩)
      have d1 : (x : Int).tdiv (p : Int) = ((x / p : Nat) : Int) := (Int.ofNat_tdiv _ _).symm
      have d2 : (y : Int).tdiv (p : Int) = ((y / p : Nat) : Int) := (Int.ofNat_tdiv _ _).symm
      have d3 : x / p ≤ x := Nat.div_le_self _ _
      have d4 : y / p ≤ y := Nat.div_le_self _ _
      have d5 : (x : Int) / (p : Int) = ((x / p : Nat) : Int) := (Int.natCast_ediv _ _).symm
      have d6 : (y : Int) / (p : Int) = ((y / p : Nat) : Int) := (Int.natCast_ediv _ _).symm
      have hpi : ((p : Int) == 0) = false := by rw [beq_eq_false_iff_ne]; omega
      generalize x / p = u at *
      generalize y / p = v at *
      have r0 := hR.c 0 rfl
      have r1 := hR.c 1 rfl
      have f0 := hR.fr 0
      have f1 := hR.fr 1
      have hS := hR.set2 (.int .i64 (u : Nat)) (.int .i64 (v : Nat))
      have s0 := hS.c 0 rfl
      have s1 := hS.c 1 rfl
      replace hS := Lib.hid hS
      replace hR := Lib.hid hR
      have hpz : ((p : Int) == 0) = false := hpi
      have hu : IntKind.i64.wrap (u : Int) = (u : Int) := IntWalk.i64_in _ (by omega)
      have hv : IntKind.i64.wrap (v : Int) = (v : Int) := IntWalk.i64_in _ (by omega)
      go_wp2
      refine wp_region_ext_tail 7 (by kernel_rfl) (by kernel_rfl) ?_
      simp only [List.take_succ_cons, List.take_zero, List.drop_succ_cons, List.drop_zero]
      repeat (go_big_quiet_step (fail))
      refine wpQuiet_nil ?_
      rintro ⟨w1, hw1⟩
      dsimp only
      have hR2 := hR.out.ext hw1
      replace r0 := cellB hw1 r0
      replace r1 := cellB hw1 r1
      have f0' := hR2.fr 0
      have f1' := hR2.fr 1
      have hS2 := hR2.set2 (.int .i64 (u : Nat)) (.int .i64 (v : Nat))
      have t0 := hS2.c 0 rfl
      have t1 := hS2.c 1 rfl
      replace hS2 := Lib.hid hS2
      replace hR2 := Lib.hid hR2
      replace B0 := nextB B0 hw1
      clear s0 s1 f0 f1
      go_wp2
      refine bodyPost_ret (v := ratV (u : Nat) (v : Nat)) (by simp [results, Try.results49, go_sem, t0, t1]) rfl ?_
      exact Ret.mk (by rw [huv.out.1, huv.out.2]) ((B0.setCell (Nat.le_refl _) _).setCell (Nat.le_refl _) _)
    · have hqi : ((q : Int) != 0) = true := by rw [bne_iff_ne]; omega
      have m1 : (p : Int).tmod (q : Int) = ((p % q : Nat) : Int) := by rw [Int.natCast_emod]; exact Int.tmod_eq_emod_of_nonneg (by omega)
      have m2 : (p : Int) % (q : Int) = ((p % q : Nat) : Int) := (Int.natCast_emod _ _).symm
      have m3 : p % q < q := Nat.mod_lt _ (by omega)
      have hqz : ((q : Int) == 0) = false := by rw [beq_eq_false_iff_ne]; omega
      have hgg := Lib.hid (show Nat.gcd q (p % q) = Nat.gcd x y by rw [← hg.out, Nat.gcd_comm p q, Nat.gcd_comm q (p % q), ← Nat.gcd_rec])
      generalize p % q = z at *
      have hzw : IntKind.i64.wrap (z : Int) = (z : Int) := IntWalk.i64_in _ (by omega)
      go_wp2
      refine wp_region_ext (by kernel_rfl) (by kernel_rfl) ?_
      repeat (go_big_quiet_step (fail))
      refine wpQuiet_nil ?_
      rintro ⟨w1, hw1⟩
      dsimp only
      replace hR := hR.ext hw1
      replace B0 := nextB B0 hw1
      go_wp2
      go_roundw
      case rel => exact ⟨q, z, rfl, rfl, by omega, by omega, hgg.out, hR, B0⟩
      case measure => simp [intOf]; omega
end Go.Proofs.Ytnnndooagpkgmaa
