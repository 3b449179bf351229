/- Layer 3, mathematics: the sum of all orders; turns by the sets that win. -/
import Derived.Test.YtnnndooagpkgmaaWr
namespace Go.Proofs.Ytnnndooagpkgmaa
open Go Go.RowKit

theorem sumTo_const (c n : Nat) : sumTo (fun _ => c) n = n * c := by
  induction n with
  | zero => simp [sumTo]
  | succ n ih => rw [sumTo, ih, Nat.succ_mul]
theorem mis_siz (b n : Nat) : mis b n + siz b n = n := by
  unfold mis siz
  induction n with
  | zero => rfl
  | succ n ih =>
    rw [cnt, cnt]
    cases b.testBit n <;> simp <;> omega
theorem full_of_siz {b n : Nat} (hb : b < pw n) (h : siz b n = n) : b = pw n - 1 := by
  have h1 := inB_full hb
  have h2 := gap_siz h1 n
  have h3 := siz_le (pw n - 1) n
  by_cases e : pw n - 1 = b
  · exact e.symm
  · have := gap_pos h1 (show pw n - 1 < pw n by have := pw_pos n; omega) e
    omega
/-- All orders turn somebody. -/
theorem ordM_all {n : Nat} {f : Nat → Bool} (g : Game n f) : ∀ l b, b < pw n → siz b n + l = n → f b = false → sumTo (ordM f n l b) n = fac l := by
  intro l
  induction l with
  | zero =>
    intro b hb hl hf
    have := full_of_siz hb (by omega)
    rw [this, g.full] at hf
    cases hf
  | succ l ih =>
    intro b hb hl hf
    have h1 : sumTo (ordM f n (l + 1) b) n = sumTo (fun e => sumTo (fun d => brM f n l b e d) n) n := sumTo_congr fun e _ => ordM_succ f n l b e
    rw [h1, ← sumTo_swap (fun d e => brM f n l b e d) n n]
    have h2 : ∀ d, d < n → sumTo (fun e => brM f n l b e d) n = if !(b.testBit d) then fac l else 0 := by
      intro d hd
      unfold brM
      cases hbd : b.testBit d
      · simp only [Bool.false_eq_true, if_false, Bool.not_false, if_true]
        cases hfd : f (b + pw d)
        · simp only [Bool.false_eq_true, if_false]
          exact ih (b + pw d) (add_lt hb hd hbd) (by rw [siz_add hd hbd]; omega) hfd
        · simp only [if_true]
          rw [sumTo_congr (h := fun e => if e = d then fac l else 0) (fun e _ => by
            by_cases h : d = e
            · rw [if_pos h, if_pos h.symm]
            · rw [if_neg h, if_neg (fun h' => h h'.symm)])]
          exact sumTo_one hd
      · simp only [if_true, Bool.not_true, Bool.false_eq_true, if_false]
        exact sumTo_zero fun _ _ => rfl
    rw [sumTo_congr h2, sumTo_cnt]
    have h3 := mis_siz b n
    show mis b n * fac l = fac l * (l + 1)
    rw [show mis b n = l + 1 by omega, Nat.mul_comm]
theorem sumTo_split (g : Nat → Nat) (a b : Nat) : sumTo g (a + b) = sumTo g a + sumTo (fun i => g (a + i)) b := by
  induction b with
  | zero => rfl
  | succ b ih => rw [← Nat.add_assoc, sumTo, ih, sumTo]; omega
/-- Sets with a drover are sets without, and the drover. -/
theorem sum_with (g : Nat → Nat) (e : Nat) : ∀ n, e < n → sumTo (fun s => if s.testBit e then g s else 0) (pw n) = sumTo (fun s => if s.testBit e then 0 else g (s + pw e)) (pw n) := by
  intro n
  induction n generalizing g with
  | zero => intro h; omega
  | succ n ih =>
    intro he
    have hp : pw (n + 1) = pw n + pw n := by rw [pw_succ]; omega
    rw [hp, sumTo_split, sumTo_split]
    have hn : ∀ i, i < pw n → i.testBit n = false := fun i hi => Nat.testBit_lt_two_pow hi
    by_cases h : e = n
    · subst h
      rw [sumTo_zero (g := fun s => if s.testBit e then g s else 0) (fun i hi => by rw [hn i hi]; rfl)]
      rw [sumTo_zero (g := fun i => if (pw e + i).testBit e then 0 else g (pw e + i + pw e)) (fun i hi => by
        rw [Nat.add_comm (pw e) i, add_test (hn i hi)]
        simp)]
      rw [Nat.zero_add, Nat.add_zero]
      refine sumTo_congr fun i hi => ?_
      rw [Nat.add_comm (pw e) i, add_test (hn i hi), hn i hi]
      simp
    · rw [ih g (by omega)]
      have ht : ∀ i, i < pw n → (pw n + i).testBit e = i.testBit e := fun i hi => by
        rw [Nat.add_comm (pw n) i, add_test (hn i hi)]
        simp [Ne.symm h]
      have := ih (fun i => g (pw n + i)) (by omega)
      rw [sumTo_congr (g := fun i => if (pw n + i).testBit e then g (pw n + i) else 0) (h := fun i => if i.testBit e then g (pw n + i) else 0) (fun i hi => by rw [ht i hi])]
      rw [sumTo_congr (g := fun i => if (pw n + i).testBit e then 0 else g (pw n + i + pw e)) (h := fun i => if i.testBit e then 0 else g (pw n + (i + pw e))) (fun i hi => by rw [ht i hi, Nat.add_assoc])]
      rw [this]
theorem cnt_sum (p : Nat → Bool) (k : Nat) : cnt p k = sumTo (fun s => if p s then 1 else 0) k := by
  induction k with
  | zero => rfl
  | succ k ih => rw [cnt, sumTo, ih]
/-- Twice the winning sets with a drover are the drover's turns and all winning sets. -/
theorem turn_with {n : Nat} {f : Nat → Bool} (g : Game n f) {e : Nat} (he : e < n) : cnt (turnB f e) (pw n) + cnt f (pw n) = 2 * cnt (fun s => f s && s.testBit e) (pw n) := by
  have hw : cnt (fun s => f s && s.testBit e) (pw n) = sumTo (fun s => if s.testBit e then (if f s then 1 else 0) else 0) (pw n) := by
    rw [cnt_sum]
    refine sumTo_congr fun s _ => ?_
    cases f s <;> cases s.testBit e <;> rfl
  have hw2 := sum_with (fun s => if f s then 1 else 0) e n he
  rw [← hw] at hw2
  rw [Nat.two_mul]
  conv => rhs; arg 1; rw [hw2]
  rw [hw, cnt_sum, cnt_sum, ← sumTo_add, ← sumTo_add]
  refine sumTo_congr fun s hs => ?_
  unfold turnB
  cases ht : s.testBit e
  · have hm := g.mono s (s + pw e) hs (add_lt hs he ht) (inB_add ht)
    cases h1 : f s
    · cases f (s + pw e) <;> rfl
    · rw [hm h1]; rfl
  · simp
end Go.Proofs.Ytnnndooagpkgmaa
