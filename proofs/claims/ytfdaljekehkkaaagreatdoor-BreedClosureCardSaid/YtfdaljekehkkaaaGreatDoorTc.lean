/- Layer 5: parts of a set that triples join; the tree that is built of them. -/
import Derived.Test.YtfdaljekehkkaaaGreatDoorTb
namespace Go.Proofs.YtfdaljekehkkaaaGreatDoor
open Go Go.RowKit

def orL (l : List Nat) : Nat := l.foldl (· ||| ·) 0
theorem or_foldl (l : List Nat) : ∀ a i, (l.foldl (· ||| ·) a).testBit i = (a.testBit i || l.any fun p => p.testBit i) := by
  induction l with
  | nil => simp
  | cons p l ih => intro a i; simp [ih, Nat.testBit_or, Bool.or_assoc]
theorem orL_test (l : List Nat) (i : Nat) : (orL l).testBit i = l.any fun p => p.testBit i := by
  unfold orL; rw [or_foldl]; simp
theorem orL_snoc (l : List Nat) (p : Nat) : orL (l ++ [p]) = orL l ||| p := by simp [orL]
theorem and_zero {a b : Nat} : a &&& b = 0 ↔ ∀ i, a.testBit i = true → b.testBit i = false := by
  constructor
  · intro h i hi
    have := Nat.testBit_and a b i
    rw [h, hi] at this
    simpa using this.symm
  · intro h
    apply Nat.eq_of_testBit_eq
    intro i
    rw [Nat.testBit_and, Nat.zero_testBit]
    cases ha : a.testBit i
    · rfl
    · rw [h i ha]; rfl
theorem ex_bit {a : Nat} (h : a ≠ 0) : ∃ i, a.testBit i = true := by
  refine Classical.byContradiction fun hn => h (Nat.eq_of_testBit_eq fun i => ?_)
  rw [Nat.zero_testBit]
  cases ha : a.testBit i
  · rfl
  · exact absurd ⟨i, ha⟩ hn
/-- ps are parts of s. -/
structure IsPart (s : Nat) (ps : List Nat) : Prop where
  some : ∀ p ∈ ps, p ≠ 0
  apart : ps.Pairwise fun a b => a &&& b = 0
  all : ∀ i, s.testBit i = true ↔ ∃ p ∈ ps, p.testBit i = true
theorem IsPart.perm {s : Nat} {ps qs : List Nat} (h : IsPart s ps) (hp : ps.Perm qs) : IsPart s qs :=
  ⟨fun p hq => h.some p (hp.mem_iff.2 hq), (hp.pairwise_iff fun {a b} e => by rw [Nat.and_comm]; exact e).1 h.apart, fun i => by
    rw [h.all i]
    exact ⟨fun ⟨p, k, e⟩ => ⟨p, hp.mem_iff.1 k, e⟩, fun ⟨p, k, e⟩ => ⟨p, hp.mem_iff.2 k, e⟩⟩⟩
theorem IsPart.one {s : Nat} {ps : List Nat} (h : IsPart s ps) {i p q : Nat} (hp : p ∈ ps) (hq : q ∈ ps) (h1 : p.testBit i = true) (h2 : q.testBit i = true) : p = q := by
  obtain ⟨x, hx, rfl⟩ := List.mem_iff_getElem.1 hp
  obtain ⟨y, hy, rfl⟩ := List.mem_iff_getElem.1 hq
  have ha := List.pairwise_iff_getElem.1 h.apart
  rcases Nat.lt_trichotomy x y with e | e | e
  · have := and_zero.1 (ha x y hx hy e) i h1
    rw [h2] at this; cases this
  · subst e; rfl
  · have := and_zero.1 (ha y x hy hx e) i h2
    rw [h1] at this; cases this
theorem IsPart.sub {s : Nat} {ps : List Nat} (h : IsPart s ps) {p : Nat} (hp : p ∈ ps) : inB p s = true := inB_iff.2 fun i hi => (h.all i).2 ⟨p, hp, hi⟩
theorem IsPart.lt {s : Nat} {ps : List Nat} (h : IsPart s ps) (h2 : 2 ≤ ps.length) {p : Nat} (hp : p ∈ ps) : p < s := by
  have hle := inB_le (h.sub hp)
  refine Nat.lt_of_le_of_ne hle fun e => ?_
  obtain ⟨x, hx, rfl⟩ := List.mem_iff_getElem.1 hp
  obtain ⟨y, hy, hne⟩ : ∃ y, y < ps.length ∧ y ≠ x := by
    by_cases h0 : x = 0
    · exact ⟨1, by omega, by omega⟩
    · exact ⟨0, by omega, by omega⟩
  obtain ⟨i, hi⟩ := ex_bit (h.some ps[y] (List.getElem_mem hy))
  have hs : ps[x].testBit i = true := by rw [e]; exact (h.all i).2 ⟨ps[y], List.getElem_mem hy, hi⟩
  have ha := List.pairwise_iff_getElem.1 h.apart
  rcases Nat.lt_or_gt_of_ne hne with k | k
  · have := and_zero.1 (ha y x hy hx k) i hi
    rw [hs] at this; cases this
  · have := and_zero.1 (ha x y hx hy k) i hs
    rw [hi] at this; cases this
/-- Single beasts. -/
def singL (s : Nat) : List Nat := (bitsL s).map pw
theorem bits_mem {s i : Nat} (hs : s < 512) : i ∈ bitsL s ↔ s.testBit i = true := by
  unfold bitsL
  rw [List.mem_filter, List.mem_range]
  exact ⟨fun h => h.2, fun h => ⟨test_lt (n := 9) (by exact hs) h, h⟩⟩
theorem pw_test (i j : Nat) : (pw i).testBit j = decide (i = j) := by unfold pw; rw [Nat.testBit_two_pow]
theorem sing_part {s : Nat} (hs : s < 512) : IsPart s (singL s) := by
  refine ⟨fun p hp => ?_, ?_, fun i => ?_⟩
  · obtain ⟨i, _, rfl⟩ := List.mem_map.1 hp
    have := pw_pos i
    omega
  · unfold singL bitsL
    rw [List.pairwise_map]
    refine List.Pairwise.filter _ (List.Pairwise.imp ?_ List.pairwise_lt_range)
    intro a b hab
    rw [and_zero]
    intro i hi
    rw [pw_test, decide_eq_true_eq] at hi
    rw [pw_test, decide_eq_false_iff_not]
    omega
  · rw [← bits_mem hs]
    unfold singL
    constructor
    · intro h; exact ⟨pw i, List.mem_map.2 ⟨i, h, rfl⟩, by rw [pw_test]; simp⟩
    · rintro ⟨p, hp, hi⟩
      obtain ⟨j, hj, rfl⟩ := List.mem_map.1 hp
      rw [pw_test, decide_eq_true_eq] at hi
      rw [← hi]; exact hj
/-- Parts that meet a pair become one. -/
def unitP (ps : List Nat) (q : Nat) : List Nat := ps.filter (fun p => p &&& q == 0) ++ [orL (ps.filter fun p => !(p &&& q == 0))]
theorem unit_part {s q : Nat} {ps : List Nat} (h : IsPart s ps) (hq : q ≠ 0) (hqs : inB q s = true) : IsPart s (unitP ps q) := by
  have hmeet : ∀ p i, p.testBit i = true → q.testBit i = true → (p &&& q == 0) = false := by
    intro p i h1 h2
    rw [beq_eq_false_iff_ne]
    intro e
    have := and_zero.1 e i h1
    rw [h2] at this; cases this
  have hx : ∀ i, (orL (ps.filter fun p => !(p &&& q == 0))).testBit i = true ↔ ∃ p ∈ ps, (p &&& q == 0) = false ∧ p.testBit i = true := by
    intro i
    rw [orL_test, List.any_eq_true]
    constructor
    · rintro ⟨p, hp, hi⟩
      rw [List.mem_filter] at hp
      exact ⟨p, hp.1, by simpa using hp.2, hi⟩
    · rintro ⟨p, hp, he, hi⟩
      exact ⟨p, List.mem_filter.2 ⟨hp, by rw [he]; rfl⟩, hi⟩
  refine ⟨fun p hp => ?_, ?_, fun i => ?_⟩
  · rcases List.mem_append.1 hp with k | k
    · exact h.some p (List.mem_filter.1 k).1
    · rw [List.mem_singleton] at k
      subst k
      obtain ⟨i, hi⟩ := ex_bit hq
      obtain ⟨p, hp, hpi⟩ := (h.all i).1 (inB_iff.1 hqs i hi)
      intro e
      have := (hx i).2 ⟨p, hp, hmeet p i hpi hi, hpi⟩
      rw [e] at this
      simp at this
  · unfold unitP
    rw [List.pairwise_append]
    refine ⟨h.apart.filter _, List.pairwise_singleton _ _, fun a ha b hb => ?_⟩
    rw [List.mem_singleton] at hb
    subst hb
    rw [and_zero]
    intro i hi
    cases hb : (orL (ps.filter fun p => !(p &&& q == 0))).testBit i
    · rfl
    · obtain ⟨p, hp, he, hpi⟩ := (hx i).1 hb
      rw [List.mem_filter] at ha
      have := h.one ha.1 hp hi hpi
      subst this
      rw [ha.2] at he; cases he
  · rw [h.all i]
    unfold unitP
    constructor
    · rintro ⟨p, hp, hi⟩
      cases he : p &&& q == 0
      · exact ⟨_, List.mem_append.2 (.inr (List.mem_singleton.2 rfl)), (hx i).2 ⟨p, hp, he, hi⟩⟩
      · exact ⟨p, List.mem_append.2 (.inl (List.mem_filter.2 ⟨hp, he⟩)), hi⟩
    · rintro ⟨p, hp, hi⟩
      rcases List.mem_append.1 hp with k | k
      · exact ⟨p, (List.mem_filter.1 k).1, hi⟩
      · rw [List.mem_singleton] at k
        subst k
        obtain ⟨p, hp, _, hpi⟩ := (hx i).1 hi
        exact ⟨p, hp, hpi⟩
/-- The beasts A and B of a triple, and all three. -/
def abOf (t : Int × Int × Int) : Nat := pw t.1.toNat ||| pw t.2.1.toNat
def abcOf (t : Int × Int × Int) : Nat := abOf t ||| pw t.2.2.toNat
def joinS (s : Nat) (ps : List Nat) (t : Int × Int × Int) : List Nat := if inB (abcOf t) s then unitP ps (abOf t) else ps
/-- The parts of a set that triples join, in some order. -/
def joinP (l : List (Int × Int × Int)) (s : Nat) : List Nat := l.foldl (joinS s) (singL s)
theorem abOf_ne (t : Int × Int × Int) : abOf t ≠ 0 := by
  unfold abOf
  intro e
  rw [Nat.or_eq_zero_iff] at e
  have := pw_pos t.1.toNat
  omega
theorem join_step {s : Nat} {ps : List Nat} (h : IsPart s ps) (t : Int × Int × Int) : IsPart s (joinS s ps t) := by
  unfold joinS
  cases hc : inB (abcOf t) s
  · exact h
  · refine unit_part h (abOf_ne t) (inB_iff.2 fun i hi => inB_iff.1 hc i ?_)
    unfold abcOf
    rw [Nat.testBit_or, hi]; rfl
theorem join_part {s : Nat} (hs : s < 512) (l : List (Int × Int × Int)) : IsPart s (joinP l s) := by
  unfold joinP
  have : ∀ (l : List (Int × Int × Int)) ps, IsPart s ps → IsPart s (l.foldl (joinS s) ps) := by
    intro l
    induction l with
    | nil => intro ps h; exact h
    | cons t l ih => intro ps h; exact ih _ (join_step h t)
  exact this l _ (sing_part hs)
def leN (a b : Nat) : Bool := decide (a ≤ b)
def sortN (l : List Nat) : List Nat := l.mergeSort leN
theorem sortN_one {ts l : List Nat} (hp : l.Perm ts) (hs : l.Pairwise (fun a b => a ≤ b)) : sortN ts = l := by
  refine List.Perm.eq_of_pairwise (le := fun a b => leN a b = true) ?_ (List.pairwise_mergeSort (fun a b c h k => by simp only [leN, decide_eq_true_eq] at *; omega) (fun a b => by simp only [leN, Bool.or_eq_true, decide_eq_true_eq]; omega) ts) (hs.imp fun h => by simpa [leN] using h) ((List.mergeSort_perm ts leN).trans hp.symm)
  intro a b _ _ h k
  simp only [leN, decide_eq_true_eq] at h k
  omega
/-- The parts of a set that triples join, ascending. -/
def partsL (l : List (Int × Int × Int)) (s : Nat) : List Nat := sortN (joinP l s)
theorem parts_part {s : Nat} (hs : s < 512) (l : List (Int × Int × Int)) : IsPart s (partsL l s) := (join_part hs l).perm (List.mergeSort_perm _ _).symm
/-- Each, or none. -/
def allO {α β : Type} (f : α → Option β) : List α → Option (List β)
  | [] => some []
  | x :: xs => match f x with
    | none => none
    | some y => match allO f xs with
      | none => none
      | some ys => some (y :: ys)
theorem allO_some {α β : Type} {f : α → Option β} {xs : List α} {ys : List β} : allO f xs = some ys ↔ xs.length = ys.length ∧ ∀ i (h : i < xs.length) (k : i < ys.length), f xs[i] = some ys[i] := by
  induction xs generalizing ys with
  | nil => cases ys <;> simp [allO]
  | cons x xs ih =>
    simp only [allO]
    cases hx : f x with
    | none =>
      simp only [reduceCtorEq, false_iff]
      rintro ⟨h1, h2⟩
      cases ys with
      | nil => simp at h1
      | cons y ys => have := h2 0 (by simp) (by simp); simp [hx] at this
    | some y =>
      cases hr : allO f xs with
      | none =>
        simp only [reduceCtorEq, false_iff]
        rintro ⟨h1, h2⟩
        cases ys with
        | nil => simp at h1
        | cons y' ys' =>
          have := (ih (ys := ys')).2 ⟨by simpa using h1, fun i h k => by have := h2 (i + 1) (by simp; omega) (by simp; omega); simpa using this⟩
          rw [hr] at this; cases this
      | some zs =>
        simp only [Option.some.injEq]
        obtain ⟨e1, e2⟩ := ih.1 hr
        constructor
        · rintro rfl
          refine ⟨by simp [e1], fun i h k => ?_⟩
          cases i with
          | zero => simpa using hx
          | succ i => simp only [List.getElem_cons_succ]; exact e2 i (by simpa using h) (by simpa using k)
        · rintro ⟨h1, h2⟩
          cases ys with
          | nil => simp at h1
          | cons y' ys' =>
            have h0 := h2 0 (by simp) (by simp)
            simp only [List.getElem_cons_zero, hx, Option.some.injEq] at h0
            have := (ih (ys := ys')).2 ⟨by simpa using h1, fun i h k => by have := h2 (i + 1) (by simp; omega) (by simp; omega); simpa using this⟩
            rw [hr] at this
            rw [h0, Option.some.inj this]
/-- The tree of a set that shows the triples; the first number bounds the calls. -/
def buildT (l : List (Int × Int × Int)) : Nat → Nat → Option Tr
  | 0, _ => none
  | f + 1, s => if cntF s 9 = 1 then some (.leaf (lowB s)) else if (partsL l s).length = 1 then none else (allO (buildT l f) (partsL l s)).map joinT
theorem cnt_one : ∀ s, s < 512 → cntF s 9 = 1 → s = pw (lowB s) ∧ lowB s < 9 := by decide +kernel
theorem cnt_none : ∀ s, s < 512 → cntF s 9 = 0 → s = 0 := by decide +kernel
end Go.Proofs.YtfdaljekehkkaaaGreatDoor
