/- Layer 7, mathematics: Chomp. -/
import Derived.WalkKit
namespace Go.Proofs.Ytdafpjapepfniaa

/-- A bar behind a bite: row r, column c. -/
def woF (f : Nat → Nat) (r c : Nat) : Nat → Nat := fun i => if r ≤ i then min (f i) c else f i
/-- All pieces. -/
def tot (f : Nat → Nat) : Nat := f 0 + f 1 + f 2 + f 3 + f 4 + f 5
/-- A bar has at most six rows, of at most seven pieces. -/
def IsB (f : Nat → Nat) : Prop := (∀ i, f i ≤ 7) ∧ ∀ i, 6 ≤ i → f i = 0
theorem IsB.wo {f : Nat → Nat} (h : IsB f) (r c : Nat) : IsB (woF f r c) := by
  refine ⟨fun i => ?_, fun i hi => ?_⟩
  · have := h.1 i; unfold woF; split <;> omega
  · have := h.2 i hi; unfold woF; split <;> omega
/-- The bars behind all bites, by row, then by column. -/
def biF (f : Nat → Nat) : List (Nat → Nat) := (List.range 6).flatMap fun r => (List.range (f r)).map fun c => woF f r c
theorem mem_biF {f g : Nat → Nat} : g ∈ biF f ↔ ∃ r c, r < 6 ∧ c < f r ∧ g = woF f r c := by
  unfold biF
  simp only [List.mem_flatMap, List.mem_range, List.mem_map]
  constructor
  · rintro ⟨r, h1, c, h2, rfl⟩; exact ⟨r, c, h1, h2, rfl⟩
  · rintro ⟨r, c, h1, h2, rfl⟩; exact ⟨r, h1, c, h2, rfl⟩
theorem woF_le (f : Nat → Nat) (r c i : Nat) : woF f r c i ≤ f i := by unfold woF; split <;> omega
theorem tot_wo {f : Nat → Nat} {r c : Nat} (hr : r < 6) (hc : c < f r) : tot (woF f r c) < tot f := by
  have h := woF_le f r c
  have h0 := h 0; have h1 := h 1; have h2 := h 2; have h3 := h 3; have h4 := h 4; have h5 := h 5
  have e : woF f r c r < f r := by unfold woF; rw [if_pos (Nat.le_refl _)]; omega
  unfold tot
  rcases (show r = 0 ∨ r = 1 ∨ r = 2 ∨ r = 3 ∨ r = 4 ∨ r = 5 by omega) with rfl | rfl | rfl | rfl | rfl | rfl <;> omega
/-- Does the player who is next win Chomp? -/
def cw : Nat → (Nat → Nat) → Bool
  | 0, _ => true
  | n + 1, f => if tot f = 0 then true else (biF f).any fun g => !cw n g
def cWin (f : Nat → Nat) : Bool := cw (tot f) f
theorem any_congr {α : Type} {l : List α} {p q : α → Bool} (h : ∀ x ∈ l, p x = q x) : l.any p = l.any q := by
  induction l with
  | nil => rfl
  | cons x l ih => rw [List.any_cons, List.any_cons, h x (by simp), ih (fun y hy => h y (by simp [hy]))]
theorem cw_le : ∀ (n : Nat) (f : Nat → Nat), tot f ≤ n → ∀ m, tot f ≤ m → cw n f = cw m f := by
  intro n
  induction n with
  | zero =>
    intro f hn m hm
    cases m with
    | zero => rfl
    | succ m => rw [cw, cw, if_pos (by omega)]
  | succ n ih =>
    intro f hn m hm
    cases m with
    | zero => rw [cw, cw, if_pos (by omega)]
    | succ m =>
      rw [cw, cw]
      by_cases e : tot f = 0
      · rw [if_pos e, if_pos e]
      · rw [if_neg e, if_neg e]
        refine any_congr fun g hg => ?_
        obtain ⟨r, c, h1, h2, rfl⟩ := mem_biF.1 hg
        have := tot_wo h1 h2
        rw [ih _ (by omega) m (by omega)]
theorem cWin_zero {f : Nat → Nat} (h : tot f = 0) : cWin f = true := by unfold cWin; rw [h]; rfl
theorem cWin_pos {f : Nat → Nat} (h : tot f ≠ 0) : cWin f = (biF f).any fun g => !cWin g := by
  unfold cWin
  obtain ⟨n, hn⟩ : ∃ n, tot f = n + 1 := ⟨tot f - 1, by omega⟩
  rw [hn, cw, if_neg h]
  refine any_congr fun g hg => ?_
  obtain ⟨r, c, h1, h2, rfl⟩ := mem_biF.1 hg
  have := tot_wo h1 h2
  rw [cw_le n _ (by omega) (tot (woF f r c)) (Nat.le_refl _)]
/-- A bar's number. -/
def codeB (f : Nat → Nat) : Nat := f 0 + 8 * f 1 + 64 * f 2 + 512 * f 3 + 4096 * f 4 + 32768 * f 5
theorem codeB_lt {f : Nat → Nat} (h : IsB f) : codeB f < 262144 := by
  have h0 := h.1 0; have h1 := h.1 1; have h2 := h.1 2; have h3 := h.1 3; have h4 := h.1 4; have h5 := h.1 5
  unfold codeB; omega
theorem IsB.ext {f g : Nat → Nat} (h : IsB f) (k : IsB g) (h0 : f 0 = g 0) (h1 : f 1 = g 1) (h2 : f 2 = g 2) (h3 : f 3 = g 3) (h4 : f 4 = g 4) (h5 : f 5 = g 5) : f = g := by
  funext i
  by_cases hi : 6 ≤ i
  · rw [h.2 i hi, k.2 i hi]
  · rcases (show i = 0 ∨ i = 1 ∨ i = 2 ∨ i = 3 ∨ i = 4 ∨ i = 5 by omega) with rfl | rfl | rfl | rfl | rfl | rfl <;> assumption
theorem codeB_inj {f g : Nat → Nat} (h : IsB f) (k : IsB g) (e : codeB f = codeB g) : f = g := by
  have h0 := h.1 0; have h1 := h.1 1; have h2 := h.1 2; have h3 := h.1 3; have h4 := h.1 4; have h5 := h.1 5
  have k0 := k.1 0; have k1 := k.1 1; have k2 := k.1 2; have k3 := k.1 3; have k4 := k.1 4; have k5 := k.1 5
  unfold codeB at e
  exact h.ext k (by omega) (by omega) (by omega) (by omega) (by omega) (by omega)
end Go.Proofs.Ytdafpjapepfniaa
