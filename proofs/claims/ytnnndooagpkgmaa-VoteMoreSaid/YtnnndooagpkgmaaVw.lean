/- Layer 3, by the program: in how many orders each drover turns. -/
import Derived.Test.YtnnndooagpkgmaaVv
namespace Go.Proofs.Ytnnndooagpkgmaa
open Go Go.RowKit

/-- In how many orders of the l drovers that are left a drover turns. -/
def sumTo (g : Nat → Nat) : Nat → Nat
  | 0 => 0
  | k + 1 => sumTo g k + g k
def ordM (f : Nat → Bool) (n : Nat) : Nat → Nat → Nat → Nat
  | 0, _, _ => 0
  | l + 1, b, e => sumTo (fun d => if b.testBit d then 0 else if f (b + pw d) then (if d = e then fac l else 0) else ordM f n l (b + pw d) e) n
/-- What one drover more brings. -/
def brM (f : Nat → Bool) (n l b e d : Nat) : Nat := if b.testBit d then 0 else if f (b + pw d) then (if d = e then fac l else 0) else ordM f n l (b + pw d) e
theorem ordM_succ (f : Nat → Bool) (n l b e : Nat) : ordM f n (l + 1) b e = sumTo (brM f n l b e) n := rfl
theorem sumTo_le {g : Nat → Nat} {M : Nat} (h : ∀ d, g d ≤ M) (k : Nat) : sumTo g k ≤ k * M := by
  induction k with
  | zero => simp [sumTo]
  | succ k ih => have := h k; rw [sumTo, Nat.succ_mul]; omega
def bnd (l : Nat) : Nat := 8 ^ l * 40320
theorem ordM_le (f : Nat → Bool) (n : Nat) (hn : n ≤ 8) : ∀ l, l ≤ 8 → ∀ b e, ordM f n l b e ≤ bnd l := by
  intro l
  induction l with
  | zero => intro _ b e; exact Nat.zero_le _
  | succ l ih =>
    intro hl b e
    rw [ordM_succ]
    have hM : ∀ d, brM f n l b e d ≤ bnd l := fun d => by
      unfold brM
      have h1 := ih (by omega) (b + pw d) e
      have h2 := fac_le (k := l) (by omega)
      have h3 : 1 ≤ 8 ^ l := Nat.pow_pos (by omega)
      have h4 : 40320 ≤ bnd l := by unfold bnd; omega
      split
      · exact Nat.zero_le _
      · split
        · split <;> omega
        · exact h1
    have h5 := sumTo_le hM n
    have h6 : n * bnd l ≤ 8 * bnd l := Nat.mul_le_mul_right _ hn
    have h7 : bnd (l + 1) = 8 * bnd l := by unfold bnd; rw [Nat.pow_succ]; omega
    omega
theorem bnd_le {l : Nat} (h : l ≤ 8) : bnd l ≤ 676457349120 := by
  have : 8 ^ l ≤ 8 ^ 8 := Nat.pow_le_pow_right (by omega) h
  unfold bnd
  have e : (8 : Nat) ^ 8 = 16777216 := by decide
  omega
/-- Cells of numbers. -/
def cN (c : Nat → Nat) (n : Nat) : Array Value := ((List.range n).map fun i => Value.int .i64 ((c i : Nat) : Int)).toArray
theorem cN_get {c : Nat → Nat} {n i : Nat} (h : i < n) : (cN c n)[i]? = some (.int .i64 ((c i : Nat) : Int)) := by simp [cN, h]
theorem cN_set (c c' : Nat → Nat) (n d : Nat) (h : ∀ i, i < n → i ≠ d → c i = c' i) : (cN c n).setIfInBounds d (.int .i64 ((c' d : Nat) : Int)) = cN c' n := by
  apply Array.ext
  · simp [cN]
  · intro i h1 h2
    have hi : i < n := by simpa [cN] using h1
    rw [Array.getElem_setIfInBounds (by simpa [cN] using hi)]
    by_cases e : d = i
    · subst e; simp [cN]
    · simp [e, cN, h i hi (Ne.symm e)]
theorem cN_congr {c c' : Nat → Nat} {n : Nat} (h : ∀ i, i < n → c i = c' i) : cN c n = cN c' n := by
  apply Array.ext
  · simp [cN]
  · intro i h1 h2
    have hi : i < n := by simpa [cN] using h1
    simp [cN, h i hi]
/-- How many of the first k drovers are not in a set. -/
def mis (b : Nat) (n : Nat) : Nat := cnt (fun d => !(b.testBit d)) n
theorem cnt_flip {p q : Nat → Bool} {d : Nat} (hp : p d = true) (hq : q d = false) (h : ∀ i, i ≠ d → p i = q i) (n : Nat) : cnt p n = cnt q n + if d < n then 1 else 0 := by
  induction n with
  | zero => rfl
  | succ n ih =>
    rw [cnt, cnt, ih]
    by_cases e : n = d
    · subst e; rw [hp, hq]; simp
    · rw [h n e]
      have : d < n + 1 ↔ d < n := by omega
      simp only [this]
      omega
theorem mis_add {b n d : Nat} (hd : d < n) (h : b.testBit d = false) : mis b n = mis (b + pw d) n + 1 := by
  have := cnt_flip (p := fun d => !(b.testBit d)) (q := fun i => !((b + pw d).testBit i)) (d := d) (by simp [h]) (by simp [add_test h]) (fun i hi => by simp [add_test h, Ne.symm hi]) n
  rw [if_pos hd] at this
  exact this
theorem mis_pos {b n d : Nat} (hd : d < n) (h : b.testBit d = false) : 1 ≤ mis b n := by rw [mis_add hd h]; omega
abbrev nextV (p1 p3 p4 : Nat) : Value := .func (.func 71) #[] #[.pointer (some ⟨p1, 0, none⟩), .pointer (some ⟨p3, 0, none⟩), .pointer (some ⟨p4, 0, none⟩)]
/-- What the search keeps beside the counts. -/
def OrdW (n N B C p1 p3 p4 : Nat) (f : Nat → Bool) (W : World) : Prop :=
  Blk W p1 60 #[.int .i64 (n : Nat), .slice (some ⟨B, 0, none⟩) N N] ∧ Blk W p3 22 #[.slice (some ⟨C, 0, none⟩) n n] ∧ Blk W p4 83 #[nextV p1 p3 p4] ∧ Bools W B N f
theorem OrdW.grown {n N B C p1 p3 p4 : Nat} {f : Nat → Bool} {W W' : World} (h : OrdW n N B C p1 p3 p4 f W) (hg : W.grownBy W' (some C)) (hne : C ≠ p1 ∧ C ≠ p3 ∧ C ≠ p4 ∧ C ≠ B) : OrdW n N B C p1 p3 p4 f W' := by
  obtain ⟨h1, h2, h3, h4⟩ := h
  obtain ⟨k1, k2, k3, k4⟩ := hne
  exact ⟨h1.grown hg (by simpa using Ne.symm k1), h2.grown hg (by simpa using Ne.symm k2), h3.grown hg (by simpa using Ne.symm k3), h4.grown hg (by simpa using Ne.symm k4)⟩
end Go.Proofs.Ytnnndooagpkgmaa
