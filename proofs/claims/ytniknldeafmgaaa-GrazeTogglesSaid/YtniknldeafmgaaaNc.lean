/- Layer 8, mathematics: a plot turned twice; two plots in one order or in the other. -/
import Derived.Test.YtniknldeafmgaaaJa
namespace Go.Proofs.Ytniknldeafmgaaa
set_option linter.unusedSimpArgs false
set_option linter.unusedVariables false

/-- What a row of x plots has behind a turn of its j-th. -/
def tv (m l x j : Nat) : Nat := if j = x ∧ j < m then x + 1 else if j + 1 = x ∧ l ≤ j then x - 1 else x
theorem tv_near (m l x j : Nat) : tv m l x j = x ∨ (x = j ∧ tv m l x j = j + 1) ∨ (x = j + 1 ∧ tv m l x j = j) := by
  unfold tv; split
  · right; left; omega
  · split
    · right; right; omega
    · left; rfl
theorem tv_twice {m l x : Nat} (j : Nat) (h1 : x ≤ m) (h2 : l ≤ x) : tv m l (tv m l x j) j = x := by
  unfold tv
  by_cases c1 : j = x ∧ j < m
  · rw [if_pos c1, if_neg (by omega), if_pos (by omega)]; omega
  · rw [if_neg c1]
    by_cases c2 : j + 1 = x ∧ l ≤ j
    · rw [if_pos c2, if_pos (by omega)]; omega
    · rw [if_neg c2, if_neg c1, if_neg c2]
theorem tv_comm {m l x : Nat} {j j' : Nat} (h : j + 1 ≠ j') (h' : j' + 1 ≠ j) : tv m l (tv m l x j) j' = tv m l (tv m l x j') j := by
  by_cases e : j = j'
  · rw [e]
  · rcases tv_near m l x j with e1 | ⟨e1, e2⟩ | ⟨e1, e2⟩
    · rw [e1]
      rcases tv_near m l x j' with e3 | ⟨e3, e4⟩ | ⟨e3, e4⟩
      · rw [e3, e1]
      · rw [e4]; unfold tv; rw [if_neg (by omega), if_neg (by omega)]
      · rw [e4]; unfold tv; rw [if_neg (by omega), if_neg (by omega)]
    · have e3 : tv m l x j' = x := by unfold tv; rw [if_neg (by omega), if_neg (by omega)]
      rw [e3, e2]
      unfold tv; rw [if_neg (by omega), if_neg (by omega)]
    · have e3 : tv m l x j' = x := by unfold tv; rw [if_neg (by omega), if_neg (by omega)]
      rw [e3, e2]
      unfold tv; rw [if_neg (by omega), if_neg (by omega)]
theorem upf_self (g : Nat → Nat) (i : Nat) : upf g i (g i) = g := by
  funext k; unfold upf; split
  · rename_i e; rw [e]
  · rfl
theorem tnf_eq (a b : Nat) (g : Nat → Nat) (i j : Nat) : tnf a b g i j = upf g i (tv (mo b g i) (lea a g i) (g i) j) := by
  by_cases c1 : nxt b g i j
  · have e1 : tnf a b g i j = upf g i (g i + 1) := if_pos c1
    have e2 : tv (mo b g i) (lea a g i) (g i) j = g i + 1 := if_pos c1
    rw [e1, e2]
  · by_cases c2 : enf a g i j
    · have e1 : tnf a b g i j = upf g i (g i - 1) := by unfold tnf; rw [if_neg c1, if_pos c2]
      have e2 : tv (mo b g i) (lea a g i) (g i) j = g i - 1 := by
        unfold nxt at c1; unfold enf at c2
        unfold tv; rw [if_neg c1, if_pos c2]
      rw [e1, e2]
    · have e1 : tnf a b g i j = g := by unfold tnf; rw [if_neg c1, if_neg c2]
      have e2 : tv (mo b g i) (lea a g i) (g i) j = g i := by
        unfold nxt at c1; unfold enf at c2
        unfold tv; rw [if_neg c1, if_neg c2]
      rw [e1, e2, upf_self]
theorem upf_twice (g : Nat → Nat) (i x y : Nat) : upf (upf g i x) i y = upf g i y := by
  funext k; unfold upf; split <;> rfl
theorem upf_comm (g : Nat → Nat) {i k : Nat} (x y : Nat) (h : i ≠ k) : upf (upf g i x) k y = upf (upf g k y) i x := by
  funext l; unfold upf
  by_cases e1 : l = k
  · subst e1; rw [if_pos rfl, if_neg (fun e => h e.symm), if_pos rfl]
  · rw [if_neg e1, if_neg e1]
theorem mo_upf (b : Nat) (g : Nat → Nat) (i x k : Nat) : mo b (upf g i x) k = if k = i + 1 then x else mo b g k := by
  unfold mo upf
  by_cases h0 : k = 0
  · subst h0; rw [if_pos rfl, if_neg (by omega), if_pos rfl]
  · rw [if_neg h0, if_neg h0]
    by_cases h : k = i + 1
    · rw [if_pos h, if_pos (by omega)]
    · rw [if_neg h, if_neg (by omega)]
theorem lea_upf (a : Nat) (g : Nat → Nat) (i x k : Nat) (hi : i < a) : lea a (upf g i x) k = if k + 1 = i then x else lea a g k := by
  unfold lea upf
  by_cases h0 : k + 1 = a
  · rw [if_pos h0, if_pos h0, if_neg (by omega)]
  · rw [if_neg h0, if_neg h0]
theorem turn_twice {a b : Nat} {g : Nat → Nat} (h : IsS a b g) {i : Nat} (j : Nat) (hi : i < a) : tnf a b (tnf a b g i j) i j = g := by
  rw [tnf_eq, tnf_eq, upf_twice, upf_at, mo_upf, if_neg (by omega), lea_upf _ _ _ _ _ hi, if_neg (by omega), tv_twice j (h.mo_le i) (h.lea_le i), upf_self]
theorem tv_keep {a b : Nat} {g : Nat → Nat} {i j i' j' : Nat} (hi : i < a) (hne : i ≠ i') (h : (i + 1 = i' ∨ i' + 1 = i) → j ≠ j') :
    tv (mo b (upf g i (tv (mo b g i) (lea a g i) (g i) j)) i') (lea a (upf g i (tv (mo b g i) (lea a g i) (g i) j)) i') (upf g i (tv (mo b g i) (lea a g i) (g i) j) i') j' = tv (mo b g i') (lea a g i') (g i') j' := by
  have hn := tv_near (mo b g i) (lea a g i) (g i) j
  generalize tv (mo b g i) (lea a g i) (g i) j = v at *
  rw [upf_ne _ _ (fun e => hne e.symm), mo_upf, lea_upf _ _ _ _ _ hi]
  by_cases e1 : i' = i + 1
  · have hj := h (.inl e1.symm)
    rw [if_pos e1, if_neg (by omega)]
    have em : mo b g i' = g i := by rw [e1, mo_succ]
    rw [em]
    unfold tv
    by_cases c : j' = g i' ∧ j' < g i
    · rw [if_pos c, if_pos (by omega)]
    · rw [if_neg c, if_neg (by omega)]
  · rw [if_neg e1]
    by_cases e2 : i' + 1 = i
    · have hj := h (.inr e2)
      rw [if_pos e2]
      have el : lea a g i' = g i := by unfold lea; rw [if_neg (by omega), e2]
      rw [el]
      unfold tv
      by_cases c1 : j' = g i' ∧ j' < mo b g i'
      · rw [if_pos c1, if_pos c1]
      · rw [if_neg c1, if_neg c1]
        by_cases c : j' + 1 = g i' ∧ g i ≤ j'
        · rw [if_pos c, if_pos (by omega)]
        · rw [if_neg c, if_neg (by omega)]
    · rw [if_neg e2]
theorem turn_comm {a b : Nat} {g : Nat → Nat} {i j i' j' : Nat} (hi : i < a) (hi' : i' < a) (h1 : i = i' → j + 1 ≠ j' ∧ j' + 1 ≠ j) (h2 : (i + 1 = i' ∨ i' + 1 = i) → j ≠ j') :
    tnf a b (tnf a b g i j) i' j' = tnf a b (tnf a b g i' j') i j := by
  by_cases e : i = i'
  · subst e
    obtain ⟨h3, h4⟩ := h1 rfl
    rw [tnf_eq a b g i j, tnf_eq a b g i j', tnf_eq, tnf_eq, upf_twice, upf_twice, upf_at, upf_at, mo_upf, if_neg (by omega), lea_upf _ _ _ _ _ hi, if_neg (by omega), mo_upf, if_neg (by omega), lea_upf _ _ _ _ _ hi, if_neg (by omega), tv_comm h3 h4]
  · rw [tnf_eq a b g i j, tnf_eq a b g i' j', tnf_eq, tnf_eq, tv_keep hi e h2, tv_keep hi' (fun k => e k.symm) (fun k k2 => h2 (k.symm) k2.symm), upf_comm _ _ _ e]
theorem not_near {i j i' j' : Nat} (h : ((i : Int) - i') * ((i : Int) - i') + ((j : Int) - j') * ((j : Int) - j') ≠ 1) : (i = i' → j + 1 ≠ j' ∧ j' + 1 ≠ j) ∧ ((i + 1 = i' ∨ i' + 1 = i) → j ≠ j') := by
  refine ⟨fun e => ⟨fun k => h ?_, fun k => h ?_⟩, fun e k => h ?_⟩
  · rw [show (i : Int) - i' = 0 by omega, show (j : Int) - j' = -1 by omega]; rfl
  · rw [show (i : Int) - i' = 0 by omega, show (j : Int) - j' = 1 by omega]; rfl
  · rcases e with e | e
    · rw [show (i : Int) - i' = -1 by omega, show (j : Int) - j' = 0 by omega]; rfl
    · rw [show (i : Int) - i' = 1 by omega, show (j : Int) - j' = 0 by omega]; rfl
end Go.Proofs.Ytniknldeafmgaaa
