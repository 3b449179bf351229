/- Layer 5: trees: parts put in order, the family of beasts, what is kept of a tree. -/
import Derived.Test.YtfdaljekehkkaaaGreatDoorTa
namespace Go.Proofs.YtfdaljekehkkaaaGreatDoor
open Go Go.RowKit

/-- a tree is not behind another one. -/
def leT (a b : Tr) : Bool := decide (lowB a.set ≤ lowB b.set)
def sortT (ts : List Tr) : List Tr := ts.mergeSort leT
/-- Trees in the order of their least beasts are the only ones of their make that are sorted. -/
theorem sort_one {ts l : List Tr} (hp : l.Perm ts) (hs : l.Pairwise (fun a b => lowB a.set ≤ lowB b.set)) (hd : ts.Pairwise (fun a b => lowB a.set ≠ lowB b.set)) : sortT ts = l := by
  have h1 : (sortT ts).Pairwise (fun a b => leT a b = true) := List.pairwise_mergeSort (fun a b c h k => by simp only [leT, decide_eq_true_eq] at *; omega) (fun a b => by simp only [leT, Bool.or_eq_true, decide_eq_true_eq]; omega) ts
  have h2 : l.Pairwise (fun a b => leT a b = true) := hs.imp (fun h => by simpa [leT] using h)
  have hp2 : (sortT ts).Perm l := (List.mergeSort_perm ts leT).trans hp.symm
  refine List.Perm.eq_of_pairwise (le := fun a b => leT a b = true) ?_ h1 h2 hp2
  intro a b ha hb hab hba
  have ha' : a ∈ ts := (List.mergeSort_perm ts leT).mem_iff.1 ha
  have hb' : b ∈ ts := hp.mem_iff.1 hb
  simp only [leT, decide_eq_true_eq] at hab hba
  have he : lowB a.set = lowB b.set := by omega
  obtain ⟨i, hi, rfl⟩ := List.mem_iff_getElem.1 ha'
  obtain ⟨j, hj, rfl⟩ := List.mem_iff_getElem.1 hb'
  rw [List.pairwise_iff_getElem] at hd
  rcases Nat.lt_trichotomy i j with h | h | h
  · exact absurd he (hd i j hi hj h)
  · subst h; rfl
  · exact absurd he.symm (hd j i hj hi h)
/-- One tree of trees. -/
def joinT : List Tr → Tr
  | [t] => t
  | ts => .fam (sortT ts)
theorem joinT_many {ts : List Tr} (h : ts.length ≠ 1) : joinT ts = .fam (sortT ts) := by
  match ts with
  | [] => rfl
  | [_] => simp at h
  | _ :: _ :: _ => rfl
mutual
/-- The family of a set of beasts. -/
def famOf (s : Nat) : Tr → Nat
  | .leaf b => pw b
  | .fam ks => famL s (setL ks) ks
def famL (s d : Nat) : List Tr → Nat
  | [] => d
  | t :: ts => if t.set &&& s = s then famOf s t else famL s d ts
end
mutual
/-- The tree of those of its beasts that are in a set. -/
def keepT (s : Nat) : Tr → Tr
  | .leaf b => .leaf b
  | .fam ks => joinT (keepL s ks)
def keepL (s : Nat) : List Tr → List Tr
  | [] => []
  | t :: ts => if t.set &&& s = 0 then keepL s ts else keepT s t :: keepL s ts
end
theorem keepL_append (s : Nat) (ks ls : List Tr) : keepL s (ks ++ ls) = keepL s ks ++ keepL s ls := by
  induction ks with
  | nil => rfl
  | cons k ks ih =>
    simp only [List.cons_append, keepL, ih]
    split <;> simp
theorem Good.bound {m : Nat} (hm : m ≤ 9) : ∀ t, Good m t → t.set < pw m ∧ t.set ≠ 0 := by
  intro t
  induction t using Tr.ind with
  | h1 b =>
    intro h
    simp only [Good] at h
    have := pw_lt h
    have := pw_pos b
    simp only [Tr.set]
    omega
  | h2 ks ih =>
    intro h
    simp only [Good] at h
    obtain ⟨h2, _, hg⟩ := h
    simp only [Tr.set]
    have : ∀ ls : List Tr, (∀ t ∈ ls, t ∈ ks) → setL ls < pw m := by
      intro ls
      induction ls with
      | nil => intro _; simp only [setL]; exact pw_pos m
      | cons k kt ih2 =>
        intro hl
        simp only [setL]
        exact Nat.or_lt_two_pow (ih k (hl k (by simp)) (goodL_iff.1 hg k (hl k (by simp)))).1 (ih2 fun t ht => hl t (by simp [ht]))
    refine ⟨this ks fun _ h => h, ?_⟩
    cases ks with
    | nil => simp at h2
    | cons k kt =>
      have := (ih k (by simp) (goodL_iff.1 hg k (by simp))).2
      intro e
      simp only [setL] at e
      rw [Nat.or_eq_zero_iff] at e
      exact this e.1
end Go.Proofs.YtfdaljekehkkaaaGreatDoor
