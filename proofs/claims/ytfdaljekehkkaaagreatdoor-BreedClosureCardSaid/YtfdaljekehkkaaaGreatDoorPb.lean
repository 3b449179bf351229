/- Layer 5, by the specification: the list of the parts, and the tree that is built of it. -/
import Derived.Test.YtfdaljekehkkaaaGreatDoorPa
import Derived.Test.YtfdaljekehkkaaaGreatDoorEd
namespace Go.Proofs.YtfdaljekehkkaaaGreatDoor
open Go Go.RowKit

/-- The parts, in the order of their least beasts; and what they have. -/
def outF (at_ : Nat → Nat) (s : Nat) : Nat → List Nat × Nat
  | 0 => ([], 0)
  | i + 1 => if s.testBit i = true ∧ (outF at_ s i).2 &&& clsF at_ s i 8 = 0 then ((outF at_ s i).1 ++ [clsF at_ s i 8], (outF at_ s i).2 ||| clsF at_ s i 8) else outF at_ s i
/-- What the list is, as far as i. -/
structure OutP (at_ : Nat → Nat) (s i : Nat) (o : List Nat × Nat) : Prop where
  met : o.2 = orL o.1
  cls : ∀ p ∈ o.1, ∃ k, k < 8 ∧ s.testBit k = true ∧ p = clsF at_ s k 8
  ord : o.1.Pairwise fun a b => a &&& b = 0 ∧ lowB a < lowB b
  all : ∀ k, k < i → s.testBit k = true → ∃ p ∈ o.1, p.testBit k = true
  low : ∀ p ∈ o.1, lowB p < i
theorem low_isB : ((List.range 512).all fun x => x == 0 || (x.testBit (lowB x) && (List.range 9).all fun j => !(decide (j < lowB x)) || !(x.testBit j))) = true := by decide +kernel
theorem low_is {x : Nat} (hx : x < 512) (h0 : x ≠ 0) : x.testBit (lowB x) = true ∧ ∀ j, j < lowB x → x.testBit j = false := by
  have h := List.all_eq_true.1 low_isB x (List.mem_range.2 hx)
  rw [beq_eq_false_iff_ne.2 h0, Bool.false_or, Bool.and_eq_true] at h
  refine ⟨h.1, fun j hj => ?_⟩
  have h9 := (bits_step x hx (Nat.pos_of_ne_zero h0)).2.1
  have := List.all_eq_true.1 h.2 j (List.mem_range.2 (by omega))
  simpa [hj] using this
theorem low_at {x i : Nat} (hx : x < 512) (h : x.testBit i = true) (h0 : ∀ j, j < i → x.testBit j = false) : lowB x = i := by
  obtain ⟨l1, l2⟩ := low_is hx (fun e => by rw [e] at h; simp at h)
  rcases Nat.lt_trichotomy (lowB x) i with e | e | e
  · have := h0 _ e; rw [l1] at this; cases this
  · exact e
  · have := l2 _ e; rw [h] at this; cases this
theorem cls_lt (at_ : Nat → Nat) (s i : Nat) : clsF at_ s i 8 < 512 := by
  have := clsF_lt at_ s i 8
  have h : pw 8 = 256 := rfl
  omega
theorem outP_all (at_ : Nat → Nat) (s : Nat) : ∀ i, i ≤ 8 → OutP at_ s i (outF at_ s i) := by
  intro i
  induction i with
  | zero => intro _; exact ⟨rfl, fun p hp => (by cases hp), List.Pairwise.nil, fun k hk => absurd hk (by omega), fun p hp => (by cases hp)⟩
  | succ i ih =>
    intro hi
    have H := ih (by omega)
    rw [outF]
    by_cases hc : s.testBit i = true ∧ (outF at_ s i).2 &&& clsF at_ s i 8 = 0
    · rw [if_pos hc]
      obtain ⟨hsi, hz⟩ := hc
      generalize outF at_ s i = o at *
      have hbit : (clsF at_ s i 8).testBit i = true := (clsF_test at_ s i 8 i).2 ⟨by omega, rfl, hsi⟩
      have hlow : lowB (clsF at_ s i 8) = i := low_at (cls_lt _ _ _) hbit fun j hj => by
        cases hb : (clsF at_ s i 8).testBit j
        · rfl
        · obtain ⟨_, _, hsj⟩ := (clsF_test at_ s i 8 j).1 hb
          obtain ⟨p, hp, hpj⟩ := H.all j hj hsj
          have hm : o.2.testBit j = true := by rw [H.met, orL_test, List.any_eq_true]; exact ⟨p, hp, hpj⟩
          have := and_zero.1 hz j hm
          rw [hb] at this; cases this
      refine ⟨?_, ?_, ?_, ?_, ?_⟩
      · dsimp only; rw [orL_snoc, H.met]
      · intro p hp
        rcases List.mem_append.1 hp with h | h
        · exact H.cls p h
        · rw [List.mem_singleton] at h; exact ⟨i, by omega, hsi, h⟩
      · dsimp only
        rw [List.pairwise_append]
        refine ⟨H.ord, List.pairwise_singleton _ _, fun a ha b hb => ?_⟩
        rw [List.mem_singleton] at hb
        subst hb
        refine ⟨and_zero.2 fun j hj => ?_, by rw [hlow]; exact H.low a ha⟩
        have hm : o.2.testBit j = true := by rw [H.met, orL_test, List.any_eq_true]; exact ⟨a, ha, hj⟩
        exact and_zero.1 hz j hm
      · intro k hk hsk
        by_cases e : k = i
        · subst e; exact ⟨_, List.mem_append.2 (.inr (List.mem_singleton.2 rfl)), hbit⟩
        · obtain ⟨p, hp, h⟩ := H.all k (by omega) hsk
          exact ⟨p, List.mem_append.2 (.inl hp), h⟩
      · intro p hp
        rcases List.mem_append.1 hp with h | h
        · have := H.low p h; omega
        · rw [List.mem_singleton] at h; rw [h, hlow]; omega
    · rw [if_neg hc]
      generalize outF at_ s i = o at *
      refine ⟨H.met, H.cls, H.ord, ?_, fun p hp => by have := H.low p hp; omega⟩
      intro k hk hsk
      by_cases e : k = i
      · subst e
        have hnz : o.2 &&& clsF at_ s k 8 ≠ 0 := fun e => hc ⟨hsk, e⟩
        obtain ⟨j, hj⟩ := ex_bit hnz
        rw [Nat.testBit_and, Bool.and_eq_true, H.met, orL_test, List.any_eq_true] at hj
        obtain ⟨⟨p, hp, hpj⟩, hcj⟩ := hj
        obtain ⟨q, hq, hsq, e⟩ := H.cls p hp
        obtain ⟨_, h1, _⟩ := (clsF_test at_ s k 8 j).1 hcj
        have hpj2 := hpj
        rw [e] at hpj2
        obtain ⟨_, h2, _⟩ := (clsF_test at_ s q 8 j).1 hpj2
        exact ⟨p, hp, by rw [e]; exact (clsF_test at_ s q 8 k).2 ⟨by omega, by rw [← h1, h2], hsk⟩⟩
      · exact H.all k (by omega) hsk
/-- The parts of a set, in the order of their least beasts. -/
def outL (L : List T3) (s : Nat) : List Nat := (outF (labL L s) s 8).1
theorem out_part {L : List T3} {s : Nat} (hs : s < 256) : IsPart s (outL L s) := by
  have H := outP_all (labL L s) s 8 (by omega)
  refine ⟨fun p hp => ?_, H.ord.imp fun h => h.1, fun i => ⟨fun hi => H.all i (test_lt (n := 8) (by exact hs) hi) hi, ?_⟩⟩
  · obtain ⟨k, hk, hsk, rfl⟩ := H.cls p hp
    intro e
    have := (clsF_test (labL L s) s k 8 k).2 ⟨hk, rfl, hsk⟩
    rw [e] at this
    simp at this
  · rintro ⟨p, hp, hi⟩
    obtain ⟨k, hk, hsk, rfl⟩ := H.cls p hp
    exact ((clsF_test (labL L s) s k 8 i).1 hi).2.2
theorem out_perm {L : List T3} {s : Nat} (hs : s < 256) : (outL L s).Perm (joinP L s) := by
  have hJ := join_part (s := s) (by omega) L
  refine part_perm (out_part hs) hJ fun p hp => ?_
  have R := rel_all (s := s) (by omega) L
  obtain ⟨k, hk, hsk, rfl⟩ := (outP_all (labL L s) s 8 (by omega)).cls p hp
  obtain ⟨q, hq, hqk⟩ := (hJ.all k).1 hsk
  have e : q = clsF (labL L s) s k 8 := by
    apply Nat.eq_of_testBit_eq
    intro j
    rw [Bool.eq_iff_iff]
    constructor
    · intro hj
      have hsj := (hJ.all j).2 ⟨q, hq, hj⟩
      exact (clsF_test _ _ _ _ _).2 ⟨test_lt (n := 8) (by exact hs) hsj, ((R k j hsk hsj).2 ⟨q, hq, hqk, hj⟩).symm, hsj⟩
    · intro hj
      obtain ⟨_, h1, hsj⟩ := (clsF_test _ _ _ _ _).1 hj
      obtain ⟨q', hq', h2, h3⟩ := (R k j hsk hsj).1 h1.symm
      rw [hJ.one hq hq' hqk h2]
      exact h3
  rw [← e]
  exact hq
theorem out_sorted {L : List T3} {s : Nat} (hs : s < 256) {l : List Nat} (hp : l.Perm (outL L s)) (ho : l.Pairwise (fun a b => a ≤ b)) : l = partsL L s := (sortN_one (hp.trans (out_perm hs)) ho).symm
theorem out_len {L : List T3} {s : Nat} (hs : s < 256) : (outL L s).length = (partsL L s).length := by
  unfold partsL sortN
  rw [List.length_mergeSort]
  exact (out_perm hs).length_eq
theorem allO_perm {α β : Type} {f : α → Option β} {xs xs' : List α} (h : xs.Perm xs') : (∀ ys, allO f xs = some ys → ∃ ys', allO f xs' = some ys' ∧ ys'.Perm ys) ∧ (allO f xs = none → allO f xs' = none) := by
  induction h with
  | nil => exact ⟨fun ys h => ⟨ys, h, List.Perm.refl _⟩, fun h => h⟩
  | cons x h ih =>
    simp only [allO]
    cases hx : f x with
    | none => exact ⟨fun ys h => (by cases h), fun _ => rfl⟩
    | some y =>
      rename_i l1 l2
      cases h1 : allO f l1 with
      | none => rw [ih.2 h1]; exact ⟨fun ys h => (by cases h), fun _ => rfl⟩
      | some zs =>
        obtain ⟨zs', h2, h3⟩ := ih.1 zs h1
        rw [h2]
        refine ⟨fun ys h => ?_, fun h => (by cases h)⟩
        cases h
        exact ⟨y :: zs', rfl, h3.cons y⟩
  | swap x y l =>
    simp only [allO]
    cases hx : f x <;> cases hy : f y <;> cases hl : allO f l <;> simp
    exact List.Perm.swap _ _ _
  | trans h1 h2 ih1 ih2 =>
    refine ⟨fun ys h => ?_, fun h => ih2.2 (ih1.2 h)⟩
    obtain ⟨zs, h3, h4⟩ := ih1.1 ys h
    obtain ⟨us, h5, h6⟩ := ih2.1 zs h3
    exact ⟨us, h5, h6.trans h4⟩
theorem build_out {L : List T3} {s f : Nat} (hs : s < 256) (h0 : 0 < s) (h1 : cntF s 9 ≠ 1) (h2 : (partsL L s).length ≠ 1) : buildT L (f + 1) s = (allO (buildT L f) (outL L s)).map Tr.fam := by
  rw [buildT, if_neg h1, if_neg h2]
  have hpm : (outL L s).Perm (partsL L s) := (out_perm hs).trans (List.mergeSort_perm _ _).symm
  have hA := allO_perm (f := buildT L f) hpm
  have hP := out_part (L := L) hs
  cases ha : allO (buildT L f) (outL L s) with
  | none => rw [hA.2 ha]; rfl
  | some ts =>
    obtain ⟨ts', h3, h4⟩ := hA.1 ts ha
    rw [h3, Option.map_some, Option.map_some]
    congr 1
    obtain ⟨e1, e2⟩ := allO_some.1 ha
    have hset : ∀ i (h : i < ts.length), ts[i].set = (outL L s)[i]'(by omega) := fun i h => by
      have hm := List.getElem_mem (l := outL L s) (n := i) (by omega)
      have hlt := inB_le (hP.sub hm)
      exact buildT_set L f _ _ (by omega) (Nat.pos_of_ne_zero (hP.some _ hm)) (e2 i (by omega) h)
    have hord := (outP_all (labL L s) s 8 (by omega)).ord
    have hso : ts.Pairwise (fun a b => lowB a.set < lowB b.set) := by
      rw [List.pairwise_iff_getElem]
      intro i j hi hj hij
      rw [hset i hi, hset j hj]
      exact (List.pairwise_iff_getElem.1 hord i j _ _ hij).2
    have hl : ts'.length ≠ 1 := by rw [h4.length_eq, ← e1, out_len hs]; exact h2
    rw [joinT_many hl, sort_one h4.symm (hso.imp fun h => by omega)]
    exact (h4.pairwise_iff fun {a b} h => fun e => h e.symm).2 (hso.imp fun h => by omega)
end Go.Proofs.YtfdaljekehkkaaaGreatDoor
