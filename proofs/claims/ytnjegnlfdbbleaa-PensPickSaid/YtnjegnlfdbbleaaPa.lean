/- Layer 1: the specification's convex. -/
import Derived.Test.YtnjegnlfdbbleaaL
namespace Go.Proofs.Ytnjegnlfdbbleaa
open Go Go.RowKit Go.Shelf

/-- Is f true of one of 0, .., k - 1? -/
def anyL (f : Nat → Bool) : Nat → Bool
  | 0 => false
  | k + 1 => anyL f k || f k
theorem anyL_iff (f : Nat → Bool) (k : Nat) : anyL f k = true ↔ ∃ i, i < k ∧ f i = true := by
  induction k with
  | zero => simp [anyL]
  | succ k ih =>
    rw [anyL, Bool.or_eq_true, ih]
    constructor
    · rintro (⟨i, hi, h⟩ | h)
      · exact ⟨i, by omega, h⟩
      · exact ⟨k, by omega, h⟩
    · rintro ⟨i, hi, h⟩
      by_cases hik : i = k
      · subst hik; exact .inr h
      · exact .inl ⟨i, by omega, h⟩
/-- How three posts in a row turn. -/
def crossAt (n : Nat) (p : Nat → Int × Int) (i : Nat) : Int := crossI (p i) (p ((i + 1) % n)) (p ((i + 2) % n))
/-- Does a pen turn to one side alone? -/
def convB (n : Nat) (p : Nat → Int × Int) : Bool := !anyL (fun i => decide (0 < crossAt n p i)) n || !anyL (fun i => decide (crossAt n p i < 0)) n

set_option maxRecDepth 100000 in
set_option maxHeartbeats 4000000 in
theorem refConvex_any (b off n c : Nat) (p : Nat → Int × Int) (w : World) (h1 : 1 ≤ n) (h10 : n ≤ 10) (hs : ∀ i, i < n → Sm 50 (p i))
    (hc : ∀ i, i < n → w.cell? ⟨b, off + i * 2, none⟩ = some (.int .i64 (p i).1) ∧ w.cell? ⟨b, off + i * 2 + 1, none⟩ = some (.int .i64 (p i).2)) :
    Calls Try.prog 41 #[.slice (some ⟨b, off, none⟩) n c] w (Ret (.bool (convB n p)) w) := by
  go_enter Try.func41, Try.ntmps41
  have hc := Lib.hid hc
  have hs := Lib.hid hs
  go_wp2
  go_loopw [3, 4, 5] (fun l r i wr => ∃ k : Nat, k ≤ n ∧ l = .bool (anyL (fun i => decide (0 < crossAt n p i)) k) ∧ r = .bool (anyL (fun i => decide (crossAt n p i < 0)) k) ∧ i = .int .i64 k ∧ Below w.heap.size w wr) (fun _ _ i _ => n - (intOf i).toNat)
  case atStart => exact ⟨0, by omega, rfl, rfl, rfl, Below.refl _ _⟩
  case round =>
    obtain ⟨k, hk, rfl, rfl, rfl, B0⟩ := hrel
    by_cases hlt : k < n
    · have hi0 : (0 : Int) ≤ (k : Int) := by omega
      have hi1 : (k : Int) < (n : Int) := by omega
      have hq : (k + 1) % n < n := Nat.mod_lt _ (by omega)
      have hq2 : (k + 2) % n < n := Nat.mod_lt _ (by omega)
      obtain ⟨e0, e1⟩ := hc.out k hlt
      obtain ⟨f0, f1⟩ := hc.out _ hq
      obtain ⟨g0, g1⟩ := hc.out _ hq2
      have x0 := cellX (cellB B0 e0)
      have x1 := cellX (cellB B0 e1)
      have y0 := cellX (cellB B0 f0)
      have y1 := cellX (cellB B0 f1)
      have z0 := cellX (cellB B0 g0)
      have z1 := cellX (cellB B0 g1)
      clear e0 e1 f0 f1 g0 g1
      obtain ⟨m0, m1, m2⟩ := mod_at1 k n (by omega)
      obtain ⟨m3, m4, m5⟩ := mod_at2 k n (by omega)
      have S1 : Sm 1048576 ((p k).1, (p k).2) := (hs.out k hlt).mono (by omega)
      have S2 : Sm 1048576 ((p ((k + 1) % n)).1, (p ((k + 1) % n)).2) := (hs.out _ hq).mono (by omega)
      have S3 : Sm 1048576 ((p ((k + 2) % n)).1, (p ((k + 2) % n)).2) := (hs.out _ hq2).mono (by omega)
      have eL : Hid (anyL (fun i => decide (0 < crossAt n p i)) (k + 1) = (anyL (fun i => decide (0 < crossAt n p i)) k || decide (0 < crossI ((p k).1, (p k).2) ((p ((k + 1) % n)).1, (p ((k + 1) % n)).2) ((p ((k + 2) % n)).1, (p ((k + 2) % n)).2)))) := Lib.hid rfl
      have eR : Hid (anyL (fun i => decide (crossAt n p i < 0)) (k + 1) = (anyL (fun i => decide (crossAt n p i < 0)) k || decide (crossI ((p k).1, (p k).2) ((p ((k + 1) % n)).1, (p ((k + 1) % n)).2) ((p ((k + 2) % n)).1, (p ((k + 2) % n)).2) < 0))) := Lib.hid rfl
      have D := fun W => cross_any _ _ _ _ _ _ W S1 S2 S3
      generalize hL : anyL (fun i => decide (0 < crossAt n p i)) k = L at *
      generalize hR : anyL (fun i => decide (crossAt n p i < 0)) k = R at *
      clear hL hR
      generalize crossI ((p k).1, (p k).2) ((p ((k + 1) % n)).1, (p ((k + 1) % n)).2) ((p ((k + 2) % n)).1, (p ((k + 2) % n)).2) = X at *
      go_wp2
      refine wp_region_ext_tail 21 (by kernel_rfl) (by kernel_rfl) ?_
      dsimp only [List.take, List.drop]
      repeat (go_big_quiet_step ((go_at_call 58; exact callE (D _))))
      refine wpQuiet_nil ?_
      rintro ⟨w1, hw1⟩
      dsimp only
      replace B0 := nextB B0 hw1
      clear x0 x1 y0 y1 z0 z1 D m0 m1 m2 m3 m4 m5 S1 S2 S3
      by_cases g1 : 0 < X <;> by_cases g2 : X < 0 <;> cases L <;> cases R
      all_goals try omega
      all_goals
        go_wp2
        go_roundw
        case rel => exact ⟨k + 1, by omega, by rw [eL.out]; simp [g1], by rw [eR.out]; simp [g2], by go_num, B0⟩
        case measure => simp [intOf]; omega
    · have e : k = n := by omega
      subst e
      have hv : Hid (convB k p = (!anyL (fun i => decide (0 < crossAt k p i)) k || !anyL (fun i => decide (crossAt k p i < 0)) k)) := Lib.hid rfl
      generalize anyL (fun i => decide (0 < crossAt k p i)) k = L at *
      generalize anyL (fun i => decide (crossAt k p i < 0)) k = R at *
      cases L <;> cases R
      all_goals
        go_wp2
        go_ret
        refine Ret.mk ?_ B0
        rw [hv.out]
        rfl
end Go.Proofs.Ytnjegnlfdbbleaa
