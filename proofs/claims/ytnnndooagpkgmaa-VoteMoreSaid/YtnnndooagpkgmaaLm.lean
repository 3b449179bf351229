/- VoteMore: a heavier drover has at least the Turns and the Power: the walk. -/
import Derived.Test.YtnnndooagpkgmaaWz
namespace Go.Proofs.Ytnnndooagpkgmaa
open Go Go.RowKit

theorem rat_cross (o F : Nat) (hF : 1 ≤ F) : (o / Nat.gcd o F) * F = o * (F / Nat.gcd o F) := by
  obtain ⟨d, h1⟩ := Nat.gcd_dvd_right o F
  obtain ⟨u, h2⟩ := Nat.gcd_dvd_left o F
  have hg : 0 < Nat.gcd o F := Nat.gcd_pos_of_pos_right _ hF
  generalize Nat.gcd o F = g at *
  have e1 : F / g = d := by rw [h1]; exact Nat.mul_div_cancel_left d hg
  have e2 : o / g = u := by rw [h2]; exact Nat.mul_div_cancel_left u hg
  rw [e1, e2, h1, h2, ← Nat.mul_assoc, Nat.mul_comm u g]
theorem powR_more {n : Nat} {f : Nat → Bool} {i k : Nat} (h : ordM f n n 0 k ≤ ordM f n n 0 i) : (powR f n k).1 * (powR f n i).2 ≤ (powR f n i).1 * (powR f n k).2 := by
  have hF := fac_pos n
  have h1 := rat_cross (ordM f n n 0 i) (fac n) hF
  have h2 := rat_cross (ordM f n n 0 k) (fac n) hF
  unfold powR
  generalize fac n / Nat.gcd (ordM f n n 0 i) (fac n) = di at *
  generalize fac n / Nat.gcd (ordM f n n 0 k) (fac n) = dk at *
  generalize ordM f n n 0 i / Nat.gcd (ordM f n n 0 i) (fac n) = ui at *
  generalize ordM f n n 0 k / Nat.gcd (ordM f n n 0 k) (fac n) = uk at *
  generalize ordM f n n 0 i = oi at *
  generalize ordM f n n 0 k = ok at *
  generalize fac n = F at *
  have h3 : uk * di ≤ ui * dk := by
    refine Nat.le_of_mul_le_mul_right ?_ (show 0 < F from hF)
    calc uk * di * F = (uk * F) * di := by rw [Nat.mul_right_comm]
      _ = ok * dk * di := by rw [h2]
      _ ≤ oi * dk * di := Nat.mul_le_mul_right _ (Nat.mul_le_mul_right _ h)
      _ = (oi * di) * dk := by rw [Nat.mul_right_comm]
      _ = ui * F * dk := by rw [h1]
      _ = ui * dk * F := by rw [Nat.mul_right_comm]
  show (uk : Int) * (di : Int) ≤ (ui : Int) * (dk : Int)
  exact_mod_cast h3
theorem rats_some {w : World} {a : Option Addr} {x : Nat → Int × Int} {n : Nat} (h : Rats w a x n) (hn : 0 < n) : ∃ b off, a = some ⟨b, off, none⟩ ∧ ∀ i, i < n → w.cell? ⟨b, off + i * 2, none⟩ = some (.int .i64 (x i).1) ∧ w.cell? ⟨b, off + i * 2 + 1, none⟩ = some (.int .i64 (x i).2) := by
  rcases h with h | h
  · omega
  · exact h
/-- What is known of two drovers, the first at least as heavy. -/
structure Two (tI : Nat → Int) (pr : Nat → Int × Int) (i k : Nat) : Prop where
  t : tI k ≤ tI i
  p : (pr k).1 * (pr i).2 ≤ (pr i).1 * (pr k).2
theorem two_of {q : Int} {ws : List Int} {n : Nat} (hl : ws.length = n) (g : Game n (winB q ws)) {i k : Nat} (hi : i < n) (hk : k < n) (hw : nth ws k ≤ nth ws i) : Two (turnI (winB q ws) (pw n)) (powR (winB q ws) n) i k := by
  subst hl
  refine ⟨?_, powR_more ?_⟩
  · have := more_turns (q := q) hi hk hw
    unfold turnI
    omega
  · rw [← manyO_eq g hi, ← manyO_eq g hk]
    exact more_orders hi hk hw
end Go.Proofs.Ytnnndooagpkgmaa
