/- Layer 3, mathematics: what is known of the ratios of Power. -/
import Derived.Test.YtnnndooagpkgmaaWx
import Derived.Test.YtnnndooagpkgmaaLp
namespace Go.Proofs.Ytnnndooagpkgmaa
open Go Go.RowKit

theorem fac_dvd {n : Nat} (hn : n ≤ 8) : 40320 % fac n = 0 := by
  have : ∀ k, k < 9 → 40320 % fac k = 0 := by decide
  exact this n (by omega)
/-- A ratio in lowest terms, taken back to the greatest factorial. -/
theorem rat_facts (o F : Nat) (hF : 1 ≤ F) (hd : 40320 % F = 0) (ho : o ≤ F) :
    1 ≤ F / Nat.gcd o F ∧ 40320 % (F / Nat.gcd o F) = 0 ∧ o / Nat.gcd o F ≤ F / Nat.gcd o F ∧ (o / Nat.gcd o F) * (40320 / (F / Nat.gcd o F)) = o * (40320 / F) := by
  obtain ⟨d, h1⟩ := Nat.gcd_dvd_right o F
  obtain ⟨u, h2⟩ := Nat.gcd_dvd_left o F
  obtain ⟨K, h3⟩ := Nat.dvd_of_mod_eq_zero hd
  have hg : 0 < Nat.gcd o F := Nat.gcd_pos_of_pos_right _ hF
  generalize Nat.gcd o F = g at *
  have e1 : F / g = d := by rw [h1]; exact Nat.mul_div_cancel_left d hg
  have e2 : o / g = u := by rw [h2]; exact Nat.mul_div_cancel_left u hg
  have hd0 : 0 < d := by
    rcases Nat.eq_zero_or_pos d with h | h
    · rw [h, Nat.mul_zero] at h1; omega
    · exact h
  have h4 : 40320 = d * (g * K) := by rw [h3, h1]; rw [Nat.mul_comm g d, Nat.mul_assoc]
  have e3 : 40320 / d = g * K := by
    have := Nat.mul_div_cancel_left (g * K) hd0
    rw [← h4] at this
    exact this
  have e4 : 40320 / F = K := by
    have := Nat.mul_div_cancel_left K (show 0 < F from hF)
    rw [← h3] at this
    exact this
  rw [e1, e2, e3, e4]
  refine ⟨hd0, ?_, Nat.le_of_mul_le_mul_left (by rw [← h1, ← h2]; exact ho) hg, ?_⟩
  · rw [h4]; exact Nat.mul_mod_right _ _
  · rw [h2, ← Nat.mul_assoc, Nat.mul_comm u g]
theorem sumTo_ge {g : Nat → Nat} {e n : Nat} (he : e < n) : g e ≤ sumTo g n := by
  induction n with
  | zero => omega
  | succ n ih =>
    rw [sumTo]
    by_cases h : e = n
    · subst h; omega
    · have := ih (by omega); omega
theorem sumTo_mulc (g : Nat → Nat) (c n : Nat) : sumTo (fun e => g e * c) n = sumTo g n * c := by
  induction n with
  | zero => simp [sumTo]
  | succ n ih => rw [sumTo, sumTo, ih, Nat.add_mul]
/-- What is known of a drover's ratio, as whole numbers. -/
structure RatOk (x : Int × Int) (t : Nat) : Prop where
  den : 1 ≤ x.2 ∧ x.2 ≤ 40320
  div : (40320 : Int) % x.2 = 0
  num : 0 ≤ x.1 ∧ x.1 ≤ x.2
  val : x.1 * (40320 / x.2) = (t : Int)
theorem powR_ok {n : Nat} {f : Nat → Bool} (g : Game n f) (hn : n ≤ 8) : (∀ e, e < n → RatOk (powR f n e) (ordM f n n 0 e * (40320 / fac n))) ∧ sumTo (fun e => ordM f n n 0 e * (40320 / fac n)) n = 40320 := by
  have hall := ordM_all g n 0 (pw_pos n) (by rw [siz_zero]; omega) g.zero
  have hF := fac_pos n
  have hd := fac_dvd hn
  have hle := fac_le hn
  constructor
  · intro e he
    have ho : ordM f n n 0 e ≤ fac n := by rw [← hall]; exact sumTo_ge he
    obtain ⟨h1, h2, h3, h4⟩ := rat_facts _ _ hF hd ho
    have h5 : fac n / Nat.gcd (ordM f n n 0 e) (fac n) ≤ fac n := Nat.div_le_self _ _
    unfold powR
    generalize fac n / Nat.gcd (ordM f n n 0 e) (fac n) = D at *
    generalize ordM f n n 0 e / Nat.gcd (ordM f n n 0 e) (fac n) = U at *
    generalize ordM f n n 0 e * (40320 / fac n) = T at *
    refine ⟨⟨by simp; omega, by simp; omega⟩, ?_, ⟨by simp, by simp; omega⟩, ?_⟩
    · show (40320 : Int) % (D : Int) = 0
      have := (Int.natCast_emod 40320 D).symm
      rw [h2] at this
      exact this
    · show (U : Int) * (40320 / (D : Int)) = (T : Int)
      have := (Int.natCast_ediv 40320 D).symm
      rw [show (40320 : Int) / (D : Int) = ((40320 / D : Nat) : Int) from this, ← Int.natCast_mul, h4]
  · rw [sumTo_mulc, hall]
    exact Nat.mul_div_cancel' (Nat.dvd_of_mod_eq_zero hd)
end Go.Proofs.Ytnnndooagpkgmaa
