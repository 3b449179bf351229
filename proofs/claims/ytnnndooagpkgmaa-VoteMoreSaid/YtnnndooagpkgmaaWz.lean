/- Layer 3, mathematics: a heavier drover turns at least as much. -/
import Derived.Test.YtnnndooagpkgmaaWy
namespace Go.Proofs.Ytnnndooagpkgmaa
open Go Go.RowKit

theorem sumTo_le2 {g h : Nat → Nat} {k : Nat} (e : ∀ i, i < k → g i ≤ h i) : sumTo g k ≤ sumTo h k := by
  induction k with
  | zero => exact Nat.le_refl _
  | succ k ih =>
    have h1 := ih (fun i hi => e i (by omega))
    have h2 := e k (by omega)
    rw [sumTo, sumTo]; omega
theorem wsum_put (ws : List Int) {s i : Nat} (h : s.testBit i = false) (k : Nat) : wsum ws (s + pw i) k = wsum ws s k + if i < k then nth ws i else 0 := by
  induction k with
  | zero => simp [wsum]
  | succ k ih =>
    rw [wsum, wsum, ih, bt_test, bt_test, add_test h]
    by_cases e : i = k
    · subst e
      rw [h]
      simp
    · by_cases h1 : i < k
      · rw [if_pos h1, if_pos (show i < k + 1 by omega)]
        cases s.testBit k <;> simp [e] <;> omega
      · rw [if_neg h1, if_neg (show ¬ i < k + 1 by omega)]
        cases s.testBit k <;> simp [e]
/-- What a set brings, split at two drovers. -/
theorem sum_two (g : Nat → Nat) {i k n : Nat} (hi : i < n) (hk : ∀ s, s.testBit k = true → g s = 0) (_hik : i ≠ k) :
    sumTo g (pw n) = sumTo (fun s => if s.testBit i || s.testBit k then 0 else g s + g (s + pw i)) (pw n) := by
  have h1 : sumTo g (pw n) = sumTo (fun s => (if s.testBit i then g s else 0) + (if s.testBit i then 0 else g s)) (pw n) := sumTo_congr fun s _ => by cases s.testBit i <;> simp
  rw [h1, sumTo_add, sum_with g i n hi, ← sumTo_add]
  refine sumTo_congr fun s hs => ?_
  cases hsi : s.testBit i
  · cases hsk : s.testBit k
    · simp [Nat.add_comm]
    · have h2 : (s + pw i).testBit k = true := by rw [add_test hsi, hsk]; rfl
      rw [hk s hsk, hk _ h2]
      simp
  · simp
theorem turn_bit {f : Nat → Bool} {e s : Nat} (h : s.testBit e = true) : turnB f e s = false := by unfold turnB; rw [h]; rfl
/-- The exchange of two drovers. -/
theorem turn_more {n : Nat} {f : Nat → Bool} {i k : Nat} (hi : i < n) (hk : k < n) (hik : i ≠ k) (v : Nat → Nat)
    (hv : ∀ s, s.testBit i = false → s.testBit k = false → v (s + pw i) = v (s + pw k))
    (hf : ∀ s, s.testBit i = false → s.testBit k = false → f (s + pw k) = true → f (s + pw i) = true) :
    sumTo (fun s => if turnB f k s then v s else 0) (pw n) ≤ sumTo (fun s => if turnB f i s then v s else 0) (pw n) := by
  rw [sum_two (fun s => if turnB f k s then v s else 0) hi (fun s h => by rw [turn_bit h]; rfl) hik]
  rw [sum_two (fun s => if turnB f i s then v s else 0) hk (fun s h => by rw [turn_bit h]; rfl) (Ne.symm hik)]
  refine sumTo_le2 fun s _ => ?_
  cases h1 : s.testBit i
  · cases h2 : s.testBit k
    · simp only [Bool.or_self, Bool.false_eq_true, if_false]
      have hvs := hv s h1 h2
      have hfs := hf s h1 h2
      have a1 : (s + pw i).testBit k = false := by rw [add_test h1, h2]; simp [hik]
      have a2 : (s + pw k).testBit i = false := by rw [add_test h2, h1]; simp [Ne.symm hik]
      have e1 : turnB f k s = true → turnB f i s = true := by
        unfold turnB
        rw [h1, h2]
        cases f s
        · simpa using hfs
        · simp
      have e2 : turnB f k (s + pw i) = true → turnB f i (s + pw k) = true := by
        unfold turnB
        rw [a1, a2, show s + pw i + pw k = s + pw k + pw i by omega]
        cases hh : f (s + pw k)
        · cases f (s + pw i) <;> simp
        · rw [hfs hh]; simp
      refine Nat.add_le_add ?_ ?_
      · cases h3 : turnB f k s
        · simp
        · rw [e1 h3]; exact Nat.le_refl _
      · cases h3 : turnB f k (s + pw i)
        · simp
        · rw [e2 h3, hvs]; exact Nat.le_refl _
    · simp
  · simp
theorem heavier {q : Int} {ws : List Int} {i k : Nat} (hi : i < ws.length) (hk : k < ws.length) (hw : nth ws k ≤ nth ws i) {s : Nat} (h1 : s.testBit i = false) (h2 : s.testBit k = false)
    (h : winB q ws (s + pw k) = true) : winB q ws (s + pw i) = true := by
  unfold winB at h ⊢
  rw [decide_eq_true_iff] at h ⊢
  rw [wsum_put ws h2, if_pos hk] at h
  rw [wsum_put ws h1, if_pos hi]
  omega
theorem more_turns {q : Int} {ws : List Int} {i k : Nat} (hi : i < ws.length) (hk : k < ws.length) (hw : nth ws k ≤ nth ws i) :
    cnt (turnB (winB q ws) k) (pw ws.length) ≤ cnt (turnB (winB q ws) i) (pw ws.length) := by
  by_cases hik : i = k
  · rw [hik]; exact Nat.le_refl _
  · rw [cnt_sum, cnt_sum]
    exact turn_more hi hk hik (fun _ => 1) (fun _ _ _ => rfl) (fun _ h1 h2 h => heavier hi hk hw h1 h2 h)
theorem more_orders {q : Int} {ws : List Int} {i k : Nat} (hi : i < ws.length) (hk : k < ws.length) (hw : nth ws k ≤ nth ws i) :
    manyO (winB q ws) ws.length k ≤ manyO (winB q ws) ws.length i := by
  by_cases hik : i = k
  · rw [hik]; exact Nat.le_refl _
  · exact turn_more hi hk hik (fun s => fac (siz s ws.length) * fac (ws.length - 1 - siz s ws.length)) (fun s h1 h2 => by rw [siz_add hi h1, siz_add hk h2]) (fun _ h1 h2 h => heavier hi hk hw h1 h2 h)
end Go.Proofs.Ytnnndooagpkgmaa
