/- Layer 8, mathematics: all plots turned, by diagonals, are a day. -/
import Derived.Test.YtniknldeafmgaaaNe
import Derived.Test.YtniknldeafmgaaaNc
import Derived.Test.YtniknldeafmgaaaHe
namespace Go.Proofs.Ytniknldeafmgaaa
set_option linter.unusedSimpArgs false
set_option linter.unusedVariables false

/-- The plots with i + j = d, by row. -/
def dgN (a b d : Nat) : List (Nat × Nat) := ((List.range a).filter fun i => decide (i ≤ d ∧ d < i + b)).map fun i => (i, d - i)
/-- The first n diagonals, from the last one down. -/
def alN (a b : Nat) : Nat → List (Nat × Nat)
  | 0 => []
  | n + 1 => alN a b n ++ dgN a b (a + b - 2 - n)
def zP (p : Nat × Nat) : Int × Int := ((p.1 : Int), (p.2 : Int))
theorem dgN_in {a b d : Nat} {p : Nat × Nat} (h : p ∈ dgN a b d) : p.1 < a ∧ p.2 < b ∧ p.1 + p.2 = d := by
  unfold dgN at h
  obtain ⟨i, hi, rfl⟩ := List.mem_map.1 h
  rw [List.mem_filter, List.mem_range, decide_eq_true_eq] at hi
  show i < a ∧ d - i < b ∧ i + (d - i) = d
  omega
theorem alN_in {a b : Nat} : ∀ {n : Nat} {p : Nat × Nat}, p ∈ alN a b n → p.1 < a ∧ p.2 < b
  | 0, p, h => by simp [alN] at h
  | n + 1, p, h => by
    rw [alN, List.mem_append] at h
    rcases h with h | h
    · exact alN_in h
    · exact ⟨(dgN_in h).1, (dgN_in h).2.1⟩
theorem tnsF_app (a b : Nat) (g : Nat → Nat) (l m : List (Int × Int)) : tnsF a b g (l ++ m) = tnsF a b (tnsF a b g l) m := by unfold tnsF; rw [List.foldl_append]
/-- The order within a diagonal does not matter. -/
theorem tns_perm {a b d : Nat} (g : Nat → Nat) {l : List (Int × Int)} (h : l.Perm ((dgN a b d).map zP)) : tnsF a b g l = tnsF a b g ((dgN a b d).map zP) := by
  unfold tnsF
  refine h.foldl_eq' (fun x hx y hy z => ?_) g
  have hx := h.subset hx
  have hy := h.subset hy
  obtain ⟨p, hp, rfl⟩ := List.mem_map.1 hx
  obtain ⟨q, hq, rfl⟩ := List.mem_map.1 hy
  obtain ⟨p1, p2, p3⟩ := dgN_in hp
  obtain ⟨q1, q2, q3⟩ := dgN_in hq
  show tnf a b (tnf a b z p.1 p.2) q.1 q.2 = tnf a b (tnf a b z q.1 q.2) p.1 p.2
  exact turn_comm p1 q1 (fun e => by omega) (fun e => by omega)
theorem fold_L (a b : Nat) : ∀ (l : List (Nat × Nat)) (g : Nat → Nat), (∀ p ∈ l, p.1 < a) → l.foldl (fun L p => turnL b L p.1 p.2) (stR g 0 a) = stR (tnsF a b g (l.map zP)) 0 a
  | [], g, _ => rfl
  | p :: l, g, h => by
    have e := turnL_eq a b g a 0 p.1 p.2 (by omega) (h p (by simp))
    rw [Nat.zero_add] at e
    have e0 : mo b g 0 = b := if_pos rfl
    rw [e0] at e
    rw [List.foldl_cons, e, fold_L a b l _ (fun q hq => h q (by simp [hq]))]
    rfl
set_option maxRecDepth 100000 in
theorem dg6 : all6 (fun a b L => (alN a b (a + b - 1)).foldl (fun L p => turnL b L p.1 p.2) L == dl b L) = true := by decide +kernel
theorem tnsF_S {a b : Nat} : ∀ (l : List (Nat × Nat)) {g : Nat → Nat}, IsS a b g → (∀ p ∈ l, p.1 < a) → IsS a b (tnsF a b g (l.map zP))
  | [], g, hs, _ => hs
  | p :: l, g, hs, h => tnsF_S l (tnf_S hs (h p (by simp))) (fun q hq => h q (by simp [hq]))
theorem day_turns {a b : Nat} {g : Nat → Nat} (hs : IsS a b g) : tnsF a b g ((alN a b (a + b - 1)).map zP) = dayF a b g := by
  have h := all6_at dg6 hs
  have h2 := beq_iff_eq.1 h
  have h3 : ∀ p ∈ alN a b (a + b - 1), p.1 < a := fun p hp => (alN_in hp).1
  rw [fold_L a b _ g h3, dl_day0] at h2
  exact fun_of (tnsF_S _ hs h3).zr (dayF_z a b g) h2
end Go.Proofs.Ytniknldeafmgaaa
