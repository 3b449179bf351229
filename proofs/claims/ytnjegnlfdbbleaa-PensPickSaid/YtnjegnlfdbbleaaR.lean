/- Layer 1: the area and the border are both even, or both odd; the specification's Area and Grown. -/
import Derived.Test.YtnjegnlfdbbleaaZ
namespace Go.Proofs.Ytnjegnlfdbbleaa
open Go Go.RowKit Go.Shelf

theorem sumI_add (f g : Nat → Int) (n : Nat) : sumI (fun i => f i + g i) n = sumI f n + sumI g n := by
  induction n with
  | zero => rfl
  | succ n ih => simp only [sumI, ih]; omega
theorem sumI_congr {f g : Nat → Int} {n : Nat} (h : ∀ i, i < n → f i = g i) : sumI f n = sumI g n := by
  induction n with
  | zero => rfl
  | succ n ih => simp only [sumI, ih (fun i hi => h i (by omega)), h n (by omega)]
theorem sumI_mod2 {f g : Nat → Int} {n : Nat} (h : ∀ i, i < n → f i % 2 = g i % 2) : sumI f n % 2 = sumI g n % 2 := by
  induction n with
  | zero => rfl
  | succ n ih =>
    have h1 := ih (fun i hi => h i (by omega))
    have h2 := h n (by omega)
    simp only [sumI]
    omega
/-- A sum's first term, taken off. -/
theorem sumI_first (f : Nat → Int) (n : Nat) : sumI f (n + 1) = f 0 + sumI (fun i => f (i + 1)) n := by
  induction n with
  | zero => simp [sumI]
  | succ n ih => rw [sumI, ih]; simp only [sumI]; omega
/-- A sum around does not change if it is begun with the next one. -/
theorem sumI_round (f : Nat → Int) (n : Nat) : sumI (fun i => f ((i + 1) % n)) n = sumI f n := by
  cases n with
  | zero => rfl
  | succ n =>
    have e : sumI (fun i => f ((i + 1) % (n + 1))) n = sumI (fun i => f (i + 1)) n := sumI_congr (fun i hi => by rw [Nat.mod_eq_of_lt (by omega)])
    rw [sumI_first f n, sumI, e]
    simp only [Nat.mod_self]
    omega
theorem gcd_even (x y : Int) : ((Nat.gcd x.natAbs y.natAbs : Int) % 2 = 0) ↔ (x % 2 = 0 ∧ y % 2 = 0) := by
  constructor
  · intro h
    have hd : 2 ∣ Nat.gcd x.natAbs y.natAbs := by omega
    have h1 := Nat.dvd_trans hd (Nat.gcd_dvd_left _ _)
    have h2 := Nat.dvd_trans hd (Nat.gcd_dvd_right _ _)
    omega
  · rintro ⟨h1, h2⟩
    have : 2 ∣ Nat.gcd x.natAbs y.natAbs := Nat.dvd_gcd (by omega) (by omega)
    omega
/-- 1 where both numbers are even. -/
def evenP (a : Int × Int) : Int := if a.1 % 2 = 0 ∧ a.2 % 2 = 0 then 1 else 0
theorem side_par (a b : Int × Int) : (crossO (a, b) + stepsO (a, b)) % 2 = (evenP a + evenP b) % 2 := by
  have hg := gcd_even (b.1 - a.1) (b.2 - a.2)
  have hs : stepsO (a, b) = (Nat.gcd (b.1 - a.1).natAbs (b.2 - a.2).natAbs : Int) := rfl
  rw [← cross_eq, hs]
  generalize (Nat.gcd (b.1 - a.1).natAbs (b.2 - a.2).natAbs : Int) = G at *
  have c1 : (a.1 * b.2) % 2 = ((a.1 % 2) * (b.2 % 2)) % 2 := Int.mul_emod _ _ _
  have c2 : (b.1 * a.2) % 2 = ((b.1 % 2) * (a.2 % 2)) % 2 := Int.mul_emod _ _ _
  generalize a.1 * b.2 = X at *
  generalize b.1 * a.2 = Y at *
  have hG : (G % 2 = 0) ↔ (a.1 % 2 = b.1 % 2 ∧ a.2 % 2 = b.2 % 2) := by rw [hg]; omega
  clear hg hs
  unfold evenP
  have r1 : a.1 % 2 = 0 ∨ a.1 % 2 = 1 := by omega
  have r2 : a.2 % 2 = 0 ∨ a.2 % 2 = 1 := by omega
  have r3 : b.1 % 2 = 0 ∨ b.1 % 2 = 1 := by omega
  have r4 : b.2 % 2 = 0 ∨ b.2 % 2 = 1 := by omega
  rcases r1 with r1 | r1 <;> rcases r2 with r2 | r2 <;> rcases r3 with r3 | r3 <;> rcases r4 with r4 | r4 <;> simp [r1, r2, r3, r4] at c1 c2 hG ⊢ <;> omega
/-- The area and the border are both even, or both odd. -/
theorem area_par (n : Nat) (p : Nat → Int × Int) : areaI n p % 2 = borderI n p % 2 := by
  have h : (signedI n p + borderI n p) % 2 = 0 := by
    unfold signedI borderI
    have e := sumI_mod2 (f := fun i => crossO (sideAt n p i) + stepsO (sideAt n p i)) (g := fun i => evenP (p i) + evenP (p ((i + 1) % n))) (n := n) (fun i _ => side_par _ _)
    rw [sumI_add, sumI_add, sumI_round (fun i => evenP (p i))] at e
    omega
  unfold areaI
  omega
theorem sq_par (t : Int) : (t * t) % 2 = t % 2 := by
  rw [Int.mul_emod]
  have : t % 2 = 0 ∨ t % 2 = 1 := by omega
  rcases this with h | h <;> simp [h]
theorem grown_par {A B : Int} (h : A % 2 = B % 2) (t : Int) : (A * t * t - B * t) % 2 = 0 := by
  have e : A * t * t - B * t = A * (t * t) - B * t := by rw [Int.mul_assoc]
  have c1 : (A * (t * t)) % 2 = ((A % 2) * (t % 2)) % 2 := by rw [Int.mul_emod, sq_par]
  have c2 : (B * t) % 2 = ((B % 2) * (t % 2)) % 2 := Int.mul_emod _ _ _
  rw [e]
  rw [h] at c1
  omega
/-- What the specification counts inside, and both together. -/
def insideI (A B t : Int) : Int := (A * t * t - B * t + 2).tdiv 2
theorem tdiv_even (x : Int) (h : x % 2 = 0) : x.tdiv 2 = x / 2 := by
  obtain ⟨k, rfl⟩ : ∃ k, x = 2 * k := ⟨x / 2, by omega⟩
  rw [Int.mul_tdiv_cancel_left _ (by omega), Int.mul_ediv_cancel_left _ (by omega)]
theorem grown_same {A B : Int} (h : A % 2 = B % 2) (t : Int) : grownI A B t = insideI A B t + B * t ∧ grownI A B (-t) = insideI A B t := by
  have hp := grown_par h t
  unfold grownI insideI
  have e : A * -t * -t + B * -t + 2 = A * t * t - B * t + 2 := by simp only [Int.mul_neg, Int.neg_mul, Int.neg_neg]; omega
  rw [e]
  generalize A * t * t = X at *
  generalize B * t = Y at *
  rw [tdiv_even (X + Y + 2) (by omega), tdiv_even (X - Y + 2) (by omega)]
  omega

theorem tdiv2_bd {x X : Int} (h1 : -X ≤ x) (h2 : x ≤ X) : -X ≤ x.tdiv 2 ∧ x.tdiv 2 ≤ X := by
  by_cases h : 0 ≤ x
  · rw [Int.tdiv_eq_ediv_of_nonneg h]; omega
  · obtain ⟨y, rfl⟩ : ∃ y, x = -y := ⟨-x, by omega⟩
    rw [Int.neg_tdiv, Int.tdiv_eq_ediv_of_nonneg (by omega)]
    omega
theorem ptsOf {w : World} {a : Option Addr} {n : Nat} {p : Nat → Int × Int} (h : Pts w a n p) (h1 : 1 ≤ n) : ∃ b off, a = some ⟨b, off, none⟩ ∧ ∀ i, i < n → w.cell? ⟨b, off + i * 2, none⟩ = some (.int .i64 (p i).1) ∧ w.cell? ⟨b, off + i * 2 + 1, none⟩ = some (.int .i64 (p i).2) := by
  rcases h with h | h
  · omega
  · exact h

set_option maxHeartbeats 800000 in
theorem refGrown_no (a : Option Addr) (n c : Nat) (p : Nat → Int × Int) (t : Int) (w : World) (hm : n ≤ 4611686018427387904) (h : Pts w a n p) (hn : ¬ GrowP n p t) :
    Calls Try.prog 26 #[.slice a n c, .int .i64 t] w (Ret (.tuple #[.int .i64 0, .int .i64 0, .int .i64 2]) w) := by
  have H := Lib.hid (isPen_any a n c p w hm h)
  have hn := Lib.hid hn
  clear h
  go_enter Try.func26, Try.ntmps26
  go_wp2_with fail
  refine H.out.mono ?_
  rintro e w1 ⟨rfl, hb1⟩
  dsimp only
  cases g : decide (PenP n p)
  · go_wp2
    go_ret3
    exact Ret.mk rfl hb1
  · have hp := of_decide_eq_true g
    have ht : t < 1 ∨ 1000 < t := by
      by_cases h1 : t < 1
      · exact .inl h1
      · by_cases h2 : 1000 < t
        · exact .inr h2
        · exact absurd ⟨hp, by omega, by omega⟩ hn.out
    clear hp
    rcases ht with ht | ht
    all_goals
      go_wp2
      go_ret3
      exact Ret.mk rfl hb1

set_option maxHeartbeats 1600000 in
theorem refGrown_yes (a : Option Addr) (n c : Nat) (p : Nat → Int × Int) (t : Int) (w : World) (hm : n ≤ 4611686018427387904) (h : Pts w a n p) (hn : PenP n p) (ht : 1 ≤ t) (ht' : t ≤ 1000) :
    Calls Try.prog 26 #[.slice a n c, .int .i64 t] w (Ret (.tuple #[.int .i64 (insideI (areaI n p) (borderI n p) t + borderI n p * t), .int .i64 (insideI (areaI n p) (borderI n p) t), .int .i64 0]) w) := by
  have H := Lib.hid (isPen_any a n c p w hm h)
  rw [decide_eq_true hn] at H
  obtain ⟨b, off, rfl, hc⟩ := ptsOf h (by have := hn.1; omega)
  have n1 : 1 ≤ n := by have := hn.1; omega
  have n10 := hn.2.1
  obtain ⟨q1, q2⟩ := signedI_bd n10 hn.sm
  obtain ⟨q3, q4⟩ := borderI_bd n10 hn.sm
  have a1 : 0 ≤ areaI n p := by unfold areaI; omega
  have a2 : areaI n p ≤ 50000 := by unfold areaI; omega
  obtain ⟨m1, m2⟩ := mul_bd (x := areaI n p) (y := t) (X := 50000) (Y := 1000) (by omega) (by omega) (by omega) (by omega)
  obtain ⟨m3, m4⟩ := mul_bd (x := areaI n p * t) (y := t) (X := 50000000) (Y := 1000) (by omega) (by omega) (by omega) (by omega)
  obtain ⟨m5, m6⟩ := mul_bd (x := borderI n p) (y := t) (X := 1000) (Y := 1000) (by omega) (by omega) (by omega) (by omega)
  have HS : Hid (∀ w1, Below w.heap.size w w1 → Calls Try.prog 39 #[.slice (some ⟨b, off, none⟩) n c] w1 (Ret (.int .i64 (signedI n p)) w1)) := fun w1 hb => refSigned_any b off n c p w1 n1 n10 hn.sm (pts_next hb hc)
  have HB : Hid (∀ w1, Below w.heap.size w w1 → Calls Try.prog 45 #[.slice (some ⟨b, off, none⟩) n c] w1 (Ret (.int .i64 (borderI n p)) w1)) := fun w1 hb => refBorder_any b off n c p w1 n1 n10 hn.sm (pts_next hb hc)
  have hA : areaI n p = signedI n p ∧ 0 ≤ signedI n p ∨ areaI n p = - signedI n p ∧ signedI n p ≤ 0 := by unfold areaI; omega
  clear h hc hn
  go_enter Try.func26, Try.ntmps26
  unfold insideI
  generalize areaI n p = A at *
  generalize signedI n p = S at *
  generalize borderI n p = B at *
  obtain ⟨d1, d2⟩ := tdiv2_bd (x := A * t * t - B * t + 2) (X := 100000000000) (by omega) (by omega)
  replace hA : A = S ∧ 0 ≤ S ∨ A = - S ∧ S < 0 := by omega
  rcases hA with ⟨rfl, hA⟩ | ⟨rfl, hA⟩
  all_goals
    go_wp2_with (first | (go_at_call 15; refine H.out.mono ?_; rintro e w1 ⟨rfl, hb1⟩) | (go_at_call 39; (refine (HS.out _ hb1).mono ?_; rintro e w2 ⟨rfl, hb2⟩; replace hb1 := nextB hb1 hb2; clear hb2)) | fail)
    refine (HB.out _ hb1).mono ?_
    rintro e w3 ⟨rfl, hb3⟩
    replace hb1 := nextB hb1 hb3
    clear HB HS H hb3
    dsimp only
    go_wp2
    go_ret3
    exact Ret.mk rfl hb1
end Go.Proofs.Ytnjegnlfdbbleaa
