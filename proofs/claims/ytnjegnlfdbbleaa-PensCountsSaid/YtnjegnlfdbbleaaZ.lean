/- Layer 1: the specification's area and border. -/
import Derived.Test.YtnjegnlfdbbleaaW
namespace Go.Proofs.Ytnjegnlfdbbleaa
open Go Go.RowKit Go.Shelf

theorem cross_eq (a b : Int × Int) : a.1 * b.2 - b.1 * a.2 = crossO (a, b) := by simp [crossO, crossI, Int.mul_comm]

set_option maxRecDepth 100000 in
set_option maxHeartbeats 4000000 in
theorem refSigned_any (b off n c : Nat) (p : Nat → Int × Int) (w : World) (h1 : 1 ≤ n) (h10 : n ≤ 10) (hs : ∀ i, i < n → Sm 50 (p i))
    (hc : ∀ i, i < n → w.cell? ⟨b, off + i * 2, none⟩ = some (.int .i64 (p i).1) ∧ w.cell? ⟨b, off + i * 2 + 1, none⟩ = some (.int .i64 (p i).2)) :
    Calls Try.prog 39 #[.slice (some ⟨b, off, none⟩) n c] w (Ret (.int .i64 (signedI n p)) w) := by
  go_enter Try.func39, Try.ntmps39
  have hc := Lib.hid hc
  have hs := Lib.hid hs
  go_wp2
  go_loopw [3, 4] (fun s i wr => ∃ k : Nat, k ≤ n ∧ s = .int .i64 (sumI (fun i => crossO (sideAt n p i)) k) ∧ i = .int .i64 k ∧ Below w.heap.size w wr) (fun _ i _ => n - (intOf i).toNat)
  case atStart => exact ⟨0, by omega, rfl, rfl, Below.refl _ _⟩
  case round =>
    obtain ⟨k, hk, rfl, rfl, B0⟩ := hrel
    have hsum := sumI_bd (fun i => crossO (sideAt n p i)) (-5000) 5000 k (fun i hi => crossO_bd (hs.out i (by omega)) (hs.out _ (Nat.mod_lt _ (by omega))))
    by_cases hlt : k < n
    · have hi0 : (0 : Int) ≤ (k : Int) := by omega
      have hi1 : (k : Int) < (n : Int) := by omega
      have hq : (k + 1) % n < n := Nat.mod_lt _ (by omega)
      obtain ⟨e0, e1⟩ := hc.out k hlt
      obtain ⟨f0, f1⟩ := hc.out _ hq
      replace e0 := cellB B0 e0
      replace e1 := cellB B0 e1
      replace f0 := cellB B0 f0
      replace f1 := cellB B0 f1
      obtain ⟨m0, m1, m2⟩ := mod_at1 k n (by omega)
      have hb : b < wr.heap.size := block_lt_of_cell e0
      have hb1 : b < wr.heap.size + 1 := by omega
      have S1 := hs.out k hlt
      have S2 := hs.out _ hq
      have hnew : sumI (fun i => crossO (sideAt n p i)) (k + 1) = sumI (fun i => crossO (sideAt n p i)) k + ((p k).1 * (p ((k + 1) % n)).2 - (p ((k + 1) % n)).1 * (p k).2) := by
        rw [cross_eq (p k) (p ((k + 1) % n))]; rfl
      generalize sumI (fun i => crossO (sideAt n p i)) k = S at *
      unfold Sm at S1 S2
      have M1 := mul_bd (x := (p k).1) (y := (p ((k + 1) % n)).2) (X := 50) (Y := 50) (by omega) (by omega) (by omega) (by omega)
      have M2 := mul_bd (x := (p ((k + 1) % n)).1) (y := (p k).2) (X := 50) (Y := 50) (by omega) (by omega) (by omega) (by omega)
      generalize hqq : (k + 1) % n = q at *
      generalize hp1 : p k = P1 at *
      generalize hp2 : p q = P2 at *
      have hnew := Lib.hid hnew
      clear hqq hp1 hp2
      go_wp2
      go_region
      all_goals
        go_wp2
        go_roundw
        case rel => exact ⟨k + 1, by omega, congrArg (Value.int .i64) hnew.out.symm, by go_num, nextB B0 (b2 _ _ _).drew⟩
        case measure => simp [intOf]; omega
    · have e : k = n := by omega
      subst e
      go_wp2
      go_ret
      exact Ret.mk rfl B0

theorem gcd_swap (a b : Int × Int) : stepsO (a, b) = (Nat.gcd (a.1 - b.1).natAbs (a.2 - b.2).natAbs : Int) := by
  simp only [stepsO]
  rw [show b.1 - a.1 = -(a.1 - b.1) by omega, show b.2 - a.2 = -(a.2 - b.2) by omega, Int.natAbs_neg, Int.natAbs_neg]

set_option maxRecDepth 100000 in
set_option maxHeartbeats 4000000 in
theorem refBorder_any (b off n c : Nat) (p : Nat → Int × Int) (w : World) (h1 : 1 ≤ n) (h10 : n ≤ 10) (hs : ∀ i, i < n → Sm 50 (p i))
    (hc : ∀ i, i < n → w.cell? ⟨b, off + i * 2, none⟩ = some (.int .i64 (p i).1) ∧ w.cell? ⟨b, off + i * 2 + 1, none⟩ = some (.int .i64 (p i).2)) :
    Calls Try.prog 45 #[.slice (some ⟨b, off, none⟩) n c] w (Ret (.int .i64 (borderI n p)) w) := by
  go_enter Try.func45, Try.ntmps45
  have hc := Lib.hid hc
  have hs := Lib.hid hs
  go_wp2
  go_loopw [3, 4] (fun s i wr => ∃ k : Nat, k ≤ n ∧ s = .int .i64 (sumI (fun i => stepsO (sideAt n p i)) k) ∧ i = .int .i64 k ∧ Below w.heap.size w wr) (fun _ i _ => n - (intOf i).toNat)
  case atStart => exact ⟨0, by omega, rfl, rfl, Below.refl _ _⟩
  case round =>
    obtain ⟨k, hk, rfl, rfl, B0⟩ := hrel
    have hsum := sumI_bd (fun i => stepsO (sideAt n p i)) 0 100 k (fun i hi => stepsO_bd (hs.out i (by omega)) (hs.out _ (Nat.mod_lt _ (by omega))))
    by_cases hlt : k < n
    · have hi0 : (0 : Int) ≤ (k : Int) := by omega
      have hi1 : (k : Int) < (n : Int) := by omega
      have hq : (k + 1) % n < n := Nat.mod_lt _ (by omega)
      obtain ⟨e0, e1⟩ := hc.out k hlt
      obtain ⟨f0, f1⟩ := hc.out _ hq
      replace e0 := cellB B0 e0
      replace e1 := cellB B0 e1
      replace f0 := cellB B0 f0
      replace f1 := cellB B0 f1
      obtain ⟨m0, m1, m2⟩ := mod_at1 k n (by omega)
      have hb : b < wr.heap.size := block_lt_of_cell e0
      have hb1 : b < wr.heap.size + 1 := by omega
      have S1 := hs.out k hlt
      have S2 := hs.out _ hq
      have hnew : sumI (fun i => stepsO (sideAt n p i)) (k + 1) = sumI (fun i => stepsO (sideAt n p i)) k + (Nat.gcd ((p k).1 - (p ((k + 1) % n)).1).natAbs ((p k).2 - (p ((k + 1) % n)).2).natAbs : Int) := by
        rw [← gcd_swap (p k) (p ((k + 1) % n))]; rfl
      have hbd := stepsO_bd (q := (p k, p ((k + 1) % n))) S1 S2
      rw [gcd_swap] at hbd
      generalize sumI (fun i => stepsO (sideAt n p i)) k = S at *
      unfold Sm at S1 S2
      generalize hqq : (k + 1) % n = q at *
      generalize hp1 : p k = P1 at *
      generalize hp2 : p q = P2 at *
      have hnew := Lib.hid hnew
      have D := fun W => gcd_any (P1.1 - P2.1) (P1.2 - P2.2) W (by omega) (by omega) (by omega) (by omega)
      clear hqq hp1 hp2
      generalize Nat.gcd (P1.1 - P2.1).natAbs (P1.2 - P2.2).natAbs = G at *
      go_wp2
      go_region
      all_goals
        go_wp2_with fail
        refine (D _).mono ?_
        rintro e w1 ⟨rfl, hb1⟩
        dsimp only
        have B1 := nextB B0 (nextB (b2 _ _ _).drew hb1)
        clear hb1
        go_wp2
        go_roundw
        case rel => exact ⟨k + 1, by omega, congrArg (Value.int .i64) hnew.out.symm, by go_num, B1⟩
        case measure => simp [intOf]; omega
    · have e : k = n := by omega
      subst e
      go_wp2
      go_ret
      exact Ret.mk rfl B0
end Go.Proofs.Ytnjegnlfdbbleaa
