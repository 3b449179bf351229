/- Layer 3, mathematics: orders are counted by the set of those before. -/
import Derived.Test.YtnnndooagpkgmaaWq
import Derived.Test.YtnnndooagpkgmaaWf
namespace Go.Proofs.Ytnnndooagpkgmaa
open Go Go.RowKit

theorem sumTo_congr {g h : Nat → Nat} {k : Nat} (e : ∀ i, i < k → g i = h i) : sumTo g k = sumTo h k := by
  induction k with
  | zero => rfl
  | succ k ih => rw [sumTo, sumTo, ih (fun i hi => e i (by omega)), e k (by omega)]
theorem sumTo_zero {g : Nat → Nat} {k : Nat} (e : ∀ i, i < k → g i = 0) : sumTo g k = 0 := by
  induction k with
  | zero => rfl
  | succ k ih => rw [sumTo, ih (fun i hi => e i (by omega)), e k (by omega)]
theorem sumTo_add (g h : Nat → Nat) (k : Nat) : sumTo (fun i => g i + h i) k = sumTo g k + sumTo h k := by
  induction k with
  | zero => rfl
  | succ k ih => rw [sumTo, sumTo, sumTo, ih]; omega
theorem sumTo_one {e c k : Nat} (he : e < k) : sumTo (fun d => if d = e then c else 0) k = c := by
  induction k with
  | zero => omega
  | succ k ih =>
    rw [sumTo]
    by_cases h : k = e
    · subst h
      rw [sumTo_zero (fun i hi => if_neg (by omega)), if_pos rfl]
      omega
    · rw [ih (by omega), if_neg h]
      rfl
theorem sumTo_swap (u : Nat → Nat → Nat) (n N : Nat) : sumTo (fun d => sumTo (u d) N) n = sumTo (fun s => sumTo (fun d => u d s) n) N := by
  induction n with
  | zero => exact (sumTo_zero (fun _ _ => rfl)).symm
  | succ n ih =>
    rw [sumTo, ih, ← sumTo_add]
    rfl
theorem sumTo_cnt (p : Nat → Bool) (c n : Nat) : sumTo (fun d => if p d then c else 0) n = cnt p n * c := by
  induction n with
  | zero => simp [sumTo, cnt]
  | succ n ih =>
    rw [sumTo, cnt, ih, Nat.add_mul]
    cases p n <;> simp
/-- How many are in the one and not in the other. -/
def gap (b s n : Nat) : Nat := cnt (fun d => s.testBit d && !(b.testBit d)) n
theorem gap_siz {b s : Nat} (h : inB b s = true) (n : Nat) : siz b n + gap b s n = siz s n := by
  have h1 := inB_iff.1 h
  unfold siz gap
  induction n with
  | zero => rfl
  | succ n ih =>
    rw [cnt, cnt, cnt]
    have h2 := h1 n
    cases hb : b.testBit n
    · cases hs : s.testBit n <;> simp <;> omega
    · rw [h2 hb]
      simp
      omega
theorem cnt_pos {p : Nat → Bool} {d n : Nat} (hd : d < n) (h : p d = true) : 1 ≤ cnt p n := by
  induction n with
  | zero => omega
  | succ n ih =>
    rw [cnt]
    by_cases e : d = n
    · subst e
      rw [h]
      simp
    · have := ih (by omega)
      omega
theorem gap_pos {b s n : Nat} (h : inB b s = true) (hs : s < pw n) (hne : s ≠ b) : 1 ≤ gap b s n := by
  obtain ⟨i, h1, h2⟩ := inB_drop h (fun e => hne e.symm)
  refine cnt_pos (d := i) (test_lt hs h1) ?_
  rw [h1]
  cases hb : b.testBit i
  · rfl
  · have := inB_iff.1 h2 i hb
    rw [(sub_test h1).2] at this
    simp at this
theorem gap_self (b n : Nat) : gap b b n = 0 := by
  unfold gap
  induction n with
  | zero => rfl
  | succ n ih => rw [cnt, ih]; simp
theorem siz_add {b n d : Nat} (hd : d < n) (h : b.testBit d = false) : siz (b + pw d) n = siz b n + 1 := by
  have := cnt_flip (p := (b + pw d).testBit) (q := b.testBit) (d := d) (by simp [add_test h]) h (fun i hi => by simp [add_test h, Ne.symm hi]) n
  rw [if_pos hd] at this
  exact this
theorem inB_addB {b s d : Nat} (hb : b.testBit d = false) : inB (b + pw d) s = (inB b s && s.testBit d) := by
  rw [Bool.eq_iff_iff, Bool.and_eq_true, inB_iff, inB_iff]
  constructor
  · intro h
    refine ⟨fun i hi => h i (by rw [add_test hb, hi]; rfl), h d (by rw [add_test hb]; simp)⟩
  · rintro ⟨h1, h2⟩ i hi
    rw [add_test hb, Bool.or_eq_true, decide_eq_true_iff] at hi
    rcases hi with hi | rfl
    · exact h1 i hi
    · exact h2
/-- What a set brings, seen from one in it. -/
def ordB (f : Nat → Bool) (n b e s : Nat) : Nat := if inB b s && turnB f e s then fac (gap b s n) * fac (n - 1 - siz s n) else 0
theorem fac_step {k : Nat} (h : 1 ≤ k) : fac k = k * fac (k - 1) := by
  obtain ⟨j, rfl⟩ : ∃ j, k = j + 1 := ⟨k - 1, by omega⟩
  show fac j * (j + 1) = (j + 1) * fac (j + 1 - 1)
  rw [Nat.add_sub_cancel, Nat.mul_comm]
theorem ordM_sum {n : Nat} {f : Nat → Bool} (g : Game n f) {e : Nat} (he : e < n) : ∀ l b, b < pw n → siz b n + l = n → f b = false → ordM f n l b e = sumTo (ordB f n b e) (pw n) := by
  intro l
  induction l with
  | zero =>
    intro b hb hl hf
    refine (sumTo_zero fun s hs => ?_).symm
    unfold ordB
    cases h : inB b s
    · rfl
    · have h2 := gap_siz h n
      have h3 := siz_le s n
      have h4 : s = b := by
        by_cases hne : s = b
        · exact hne
        · have := gap_pos h hs hne
          omega
      have h5 : s.testBit e = true := by
        cases ht : s.testBit e
        · have h6 := cnt_one_less (p := s.testBit) ht n
          rw [if_pos he] at h6
          have h7 : siz s n = cnt s.testBit n := rfl
          rw [h4] at h7 h6
          omega
        · rfl
      unfold turnB
      rw [h5]
      rfl
  | succ l ih =>
    intro b hb hl hf
    have hbr : ∀ d, d < n → brM f n l b e d = (if d = e then (if turnB f e b then fac l else 0) else 0) + sumTo (fun s => if b.testBit d then 0 else ordB f n (b + pw d) e s) (pw n) := by
      intro d hd
      unfold brM
      cases hbd : b.testBit d
      · simp only [Bool.false_eq_true, if_false]
        have hlt := add_lt hb hd hbd
        cases hfd : f (b + pw d)
        · simp only [Bool.false_eq_true, if_false]
          rw [ih (b + pw d) hlt (by rw [siz_add hd hbd]; omega) hfd]
          have h0 : (if d = e then (if turnB f e b then fac l else 0) else 0) = 0 := by
            by_cases hde : d = e
            · subst hde
              rw [if_pos rfl]
              unfold turnB
              rw [hfd]
              simp
            · exact if_neg hde
          rw [h0, Nat.zero_add]
        · simp only [if_true]
          have h0 : sumTo (fun s => ordB f n (b + pw d) e s) (pw n) = 0 := sumTo_zero fun s hs => by
            unfold ordB
            cases h : inB (b + pw d) s
            · rfl
            · have := g.mono _ _ hlt hs h hfd
              unfold turnB
              rw [this]
              simp
          rw [h0, Nat.add_zero]
          by_cases hde : d = e
          · subst hde
            have : turnB f d b = true := by unfold turnB; rw [hbd, hf, hfd]; rfl
            rw [if_pos rfl, if_pos rfl, if_pos this]
          · rw [if_neg hde, if_neg hde]
      · simp only [if_true]
        rw [sumTo_zero (fun _ _ => rfl)]
        by_cases hde : d = e
        · subst hde
          have : turnB f d b = false := by unfold turnB; rw [hbd]; rfl
          rw [if_pos rfl, this]
          rfl
        · rw [if_neg hde]
    rw [ordM_succ, sumTo_congr hbr, sumTo_add, sumTo_one he, sumTo_swap]
    have hin : ∀ s, s < pw n → sumTo (fun d => if b.testBit d then 0 else ordB f n (b + pw d) e s) n = if inB b s && turnB f e s then gap b s n * (fac (gap b s n - 1) * fac (n - 1 - siz s n)) else 0 := by
      intro s hs
      have h1 : ∀ d, d < n → (if b.testBit d then 0 else ordB f n (b + pw d) e s) = if (s.testBit d && !(b.testBit d)) then (if inB b s && turnB f e s then fac (gap b s n - 1) * fac (n - 1 - siz s n) else 0) else 0 := by
        intro d hd
        cases hbd : b.testBit d
        · simp only [Bool.false_eq_true, if_false, Bool.not_false, Bool.and_true]
          unfold ordB
          rw [inB_addB hbd]
          cases hsd : s.testBit d
          · simp
          · simp only [Bool.and_true, if_true]
            cases h : inB b s
            · rfl
            · have h2 := gap_siz h n
              have h3 := gap_siz (b := b + pw d) (s := s) (by rw [inB_addB hbd, h, hsd]; rfl) n
              rw [siz_add hd hbd] at h3
              rw [show gap (b + pw d) s n = gap b s n - 1 by omega]
        · simp
      rw [sumTo_congr h1, sumTo_cnt]
      show gap b s n * _ = _
      cases inB b s && turnB f e s <;> simp
    rw [sumTo_congr hin]
    have hl2 : n - 1 - siz b n = l := by omega
    rw [← sumTo_one hb (c := if turnB f e b then fac l else 0), ← sumTo_add]
    refine sumTo_congr fun s hs => ?_
    unfold ordB
    by_cases hsb : s = b
    · subst hsb
      rw [if_pos rfl, gap_self, inB_refl, hl2]
      simp [fac]
    · rw [if_neg hsb, Nat.zero_add]
      cases h : inB b s
      · rfl
      · have hp := gap_pos h hs hsb
        rw [← Nat.mul_assoc, ← fac_step hp]
theorem siz_zero (n : Nat) : siz 0 n = 0 := by
  unfold siz
  induction n with
  | zero => rfl
  | succ n ih => rw [cnt, ih]; simp
theorem manyO_eq {n : Nat} {f : Nat → Bool} (g : Game n f) {e : Nat} (he : e < n) : manyO f n e = ordM f n n 0 e := by
  rw [ordM_sum g he n 0 (pw_pos n) (by rw [siz_zero]; omega) g.zero]
  refine sumTo_congr fun s hs => ?_
  unfold ordT ordB
  have h0 : inB 0 s = true := inB_iff.2 fun i hi => by simp at hi
  have h1 := gap_siz h0 n
  rw [siz_zero, Nat.zero_add] at h1
  rw [h0, h1, Bool.true_and]
theorem powT_eq {n : Nat} {f : Nat → Bool} (g : Game n f) {e : Nat} (he : e < n) : powT f n e = powR f n e := by
  unfold powT powR
  rw [manyO_eq g he]
end Go.Proofs.Ytnnndooagpkgmaa
