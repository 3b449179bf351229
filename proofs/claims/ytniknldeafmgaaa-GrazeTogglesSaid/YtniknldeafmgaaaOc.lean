/- Layer 8, mathematics: a diagonal that is built and shuffled. -/
import Derived.Test.YtniknldeafmgaaaNj
import Derived.Test.YtniknldeafmgaaaHk
namespace Go.Proofs.Ytniknldeafmgaaa
set_option linter.unusedSimpArgs false
set_option linter.unusedVariables false

theorem dgN_zero (b d : Nat) : dgN 0 b d = [] := rfl
theorem dgN_yes {i b d : Nat} (h : i ≤ d ∧ d < i + b) : dgN (i + 1) b d = dgN i b d ++ [(i, d - i)] := by
  unfold dgN
  rw [List.range_succ, List.filter_append, List.map_append]
  simp [h]
theorem dgN_no {i b d : Nat} (h : ¬ (i ≤ d ∧ d < i + b)) : dgN (i + 1) b d = dgN i b d := by
  unfold dgN
  rw [List.range_succ, List.filter_append, List.map_append]
  have : ¬ (i ≤ d ∧ d < i + b) := h
  simp [this]
theorem dgN_len (a b d : Nat) : (dgN a b d).length ≤ a := by
  unfold dgN
  rw [List.length_map]
  exact Nat.le_trans (List.length_filter_le _ _) (by simp)
/-- A plot of a list. -/
def nth2 (P : List (Nat × Nat)) (i : Nat) : Nat × Nat := P.getD i (0, 0)
/-- Two plots of a list changed for each other. -/
def swp (P : List (Nat × Nat)) (i k : Nat) : List (Nat × Nat) := (P.set i (nth2 P k)).set k (nth2 P i)
theorem swp_len (P : List (Nat × Nat)) (i k : Nat) : (swp P i k).length = P.length := by simp [swp]
theorem swp_perm {P : List (Nat × Nat)} {i k : Nat} (hi : i < P.length) (hk : k < P.length) : (swp P i k).Perm P := by
  have e1 : nth2 P k = P[k] := by simp [nth2, hk]
  have e2 : nth2 P i = P[i] := by simp [nth2, hi]
  unfold swp
  rw [e1, e2]
  exact List.set_set_perm hi hk
theorem cQ_set (P : List (Nat × Nat)) (i : Nat) (p : Nat × Nat) : cQ (P.set i p) = ((cQ P).set (i * 2) (.int .i64 (p.1 : Int))).set (i * 2 + 1) (.int .i64 (p.2 : Int)) := by
  induction P generalizing i with
  | nil => rfl
  | cons q P ih =>
    have e : ∀ q P, cQ (q :: P) = .int .i64 (q.1 : Int) :: .int .i64 (q.2 : Int) :: cQ P := fun q P => rfl
    cases i with
    | zero => rfl
    | succ i =>
      rw [List.set_cons_succ, e, e, ih, show (i + 1) * 2 = i * 2 + 1 + 1 by omega]
      rfl
/-- All that is turned so far, and the members. -/
theorem tns_next {a b n : Nat} {g : Nat → Nat} {M P : List (Nat × Nat)} (hM : tnsF a b g (M.map zP) = tnsF a b g ((alN a b n).map zP)) (hP : P.Perm (dgN a b (a + b - 2 - n))) :
    tnsF a b g ((M ++ P).map zP) = tnsF a b g ((alN a b (n + 1)).map zP) := by
  rw [List.map_append, tnsF_app, hM, tns_perm _ (hP.map zP), ← tnsF_app, ← List.map_append]
  rfl
end Go.Proofs.Ytniknldeafmgaaa
