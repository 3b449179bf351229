/- Layer 5, by the specification: parts by labels are the parts that triples join. -/
import Derived.Test.YtfdaljekehkkaaaGreatDoorDd
namespace Go.Proofs.YtfdaljekehkkaaaGreatDoor
open Go Go.RowKit

/-- One part alone is in both. -/
theorem IsPart.nodup {s : Nat} {ps : List Nat} (h : IsPart s ps) : ps.Nodup := by
  rw [List.nodup_iff_pairwise_ne]
  refine List.pairwise_iff_getElem.2 fun x y hx hy hxy e => ?_
  have ha := List.pairwise_iff_getElem.1 h.apart x y hx hy hxy
  rw [e, Nat.and_self] at ha
  exact h.some _ (List.getElem_mem hy) ha
theorem part_perm {s : Nat} {ps qs : List Nat} (h : IsPart s ps) (k : IsPart s qs) (hs : ∀ p ∈ ps, p ∈ qs) : ps.Perm qs := by
  rw [List.perm_ext_iff_of_nodup h.nodup k.nodup]
  intro p
  refine ⟨hs p, fun hp => ?_⟩
  obtain ⟨i, hi⟩ := ex_bit (k.some p hp)
  obtain ⟨p', hp', hi'⟩ := (h.all i).1 ((k.all i).2 ⟨p, hp, hi⟩)
  rw [k.one hp (hs p' hp') hi hi']
  exact hp'
theorem meet_ab (p A B : Nat) : (p &&& (pw A ||| pw B) == 0) = !(p.testBit A || p.testBit B) := by
  rw [Bool.eq_iff_iff, beq_iff_eq]
  rw [and_zero]
  simp only [Nat.testBit_or, pw_test, Bool.or_eq_false_iff, decide_eq_false_iff_not, Bool.not_eq_true', Bool.or_eq_false_iff]
  constructor
  · intro h
    constructor
    · cases e : p.testBit A
      · rfl
      · exact absurd rfl (h A e).1
    · cases e : p.testBit B
      · rfl
      · exact absurd rfl (h B e).2
  · rintro ⟨h1, h2⟩ i hi
    constructor
    · rintro rfl; rw [h1] at hi; cases hi
    · rintro rfl; rw [h2] at hi; cases hi
theorem unit_both {ps : List Nat} {A B i j : Nat} : (∃ p ∈ unitP ps (pw A ||| pw B), p.testBit i = true ∧ p.testBit j = true) ↔
    ((∃ p ∈ ps, p.testBit i = true ∧ (p.testBit A = true ∨ p.testBit B = true)) ∧ (∃ p ∈ ps, p.testBit j = true ∧ (p.testBit A = true ∨ p.testBit B = true))) ∨ ∃ p ∈ ps, p.testBit A = false ∧ p.testBit B = false ∧ p.testBit i = true ∧ p.testBit j = true := by
  have hx : ∀ i, (orL (ps.filter fun p => !(p &&& (pw A ||| pw B) == 0))).testBit i = true ↔ ∃ p ∈ ps, p.testBit i = true ∧ (p.testBit A = true ∨ p.testBit B = true) := by
    intro i
    rw [orL_test, List.any_eq_true]
    constructor
    · rintro ⟨p, hp, hi⟩
      rw [List.mem_filter, meet_ab, Bool.not_not, Bool.or_eq_true] at hp
      exact ⟨p, hp.1, hi, hp.2⟩
    · rintro ⟨p, hp, hi, h⟩
      exact ⟨p, List.mem_filter.2 ⟨hp, by rw [meet_ab, Bool.not_not, Bool.or_eq_true]; exact h⟩, hi⟩
  unfold unitP
  constructor
  · rintro ⟨p, hp, hi, hj⟩
    rcases List.mem_append.1 hp with k | k
    · rw [List.mem_filter, meet_ab] at k
      have k2 := k.2
      simp only [Bool.not_eq_true', Bool.or_eq_false_iff] at k2
      exact .inr ⟨p, k.1, k2.1, k2.2, hi, hj⟩
    · rw [List.mem_singleton] at k
      subst k
      exact .inl ⟨(hx i).1 hi, (hx j).1 hj⟩
  · rintro (⟨h1, h2⟩ | ⟨p, hp, hA, hB, hi, hj⟩)
    · exact ⟨_, List.mem_append.2 (.inr (List.mem_singleton.2 rfl)), (hx i).2 h1, (hx j).2 h2⟩
    · exact ⟨p, List.mem_append.2 (.inl (List.mem_filter.2 ⟨hp, by rw [meet_ab, hA, hB]; rfl⟩)), hi, hj⟩
/-- Labels: beasts of one part have one label. -/
def Rel (s : Nat) (at_ : Nat → Nat) (ps : List Nat) : Prop := ∀ i j, s.testBit i = true → s.testBit j = true → (at_ i = at_ j ↔ ∃ p ∈ ps, p.testBit i = true ∧ p.testBit j = true)
def relab (at_ : Nat → Nat) (A B : Nat) (i : Nat) : Nat := if at_ i = at_ B then at_ A else at_ i
def labStep (s : Nat) (at_ : Nat → Nat) (t : T3) : Nat → Nat := if inB (abcOf t) s then relab at_ t.1.toNat t.2.1.toNat else at_
theorem abc_in {t : T3} {s : Nat} (h : inB (abcOf t) s = true) : s.testBit t.1.toNat = true ∧ s.testBit t.2.1.toNat = true := by
  have hh := inB_iff.1 h
  unfold abcOf abOf at hh
  constructor
  · refine hh _ ?_
    rw [Nat.testBit_or, Nat.testBit_or, pw_test, decide_eq_true rfl]; rfl
  · refine hh _ ?_
    rw [Nat.testBit_or, Nat.testBit_or, pw_test, pw_test, decide_eq_true (p := t.2.1.toNat = t.2.1.toNat) rfl, Bool.or_true]; rfl
theorem relab_eq (at_ : Nat → Nat) (A B i j : Nat) : relab at_ A B i = relab at_ A B j ↔ ((at_ i = at_ A ∨ at_ i = at_ B) ∧ (at_ j = at_ A ∨ at_ j = at_ B)) ∨ at_ i = at_ j := by
  unfold relab
  by_cases h1 : at_ i = at_ B <;> by_cases h2 : at_ j = at_ B <;> simp [h1, h2] <;> omega
theorem rel_step {s : Nat} {at_ : Nat → Nat} {ps : List Nat} (h : IsPart s ps) (R : Rel s at_ ps) (t : T3) : Rel s (labStep s at_ t) (joinS s ps t) := by
  unfold labStep joinS
  cases hc : inB (abcOf t) s
  · exact R
  · obtain ⟨hA, hB⟩ := abc_in hc
    simp only [if_true]
    intro i j hi hj
    have hab : abOf t = pw t.1.toNat ||| pw t.2.1.toNat := rfl
    rw [hab, relab_eq, unit_both]
    generalize t.1.toNat = A at *
    generalize t.2.1.toNat = B at *
    have M : ∀ i, s.testBit i = true → ((at_ i = at_ A ∨ at_ i = at_ B) ↔ ∃ p ∈ ps, p.testBit i = true ∧ (p.testBit A = true ∨ p.testBit B = true)) := by
      intro i hi
      rw [R i A hi hA, R i B hi hB]
      constructor
      · rintro (⟨p, hp, h1, h2⟩ | ⟨p, hp, h1, h2⟩)
        · exact ⟨p, hp, h1, .inl h2⟩
        · exact ⟨p, hp, h1, .inr h2⟩
      · rintro ⟨p, hp, h1, h2 | h2⟩
        · exact .inl ⟨p, hp, h1, h2⟩
        · exact .inr ⟨p, hp, h1, h2⟩
    rw [M i hi, M j hj, R i j hi hj]
    constructor
    · rintro (h1 | ⟨p, hp, h1, h2⟩)
      · exact .inl h1
      · cases eA : p.testBit A
        · cases eB : p.testBit B
          · exact .inr ⟨p, hp, eA, eB, h1, h2⟩
          · exact .inl ⟨⟨p, hp, h1, .inr eB⟩, ⟨p, hp, h2, .inr eB⟩⟩
        · exact .inl ⟨⟨p, hp, h1, .inl eA⟩, ⟨p, hp, h2, .inl eA⟩⟩
    · rintro (h1 | ⟨p, hp, _, _, h1, h2⟩)
      · exact .inl h1
      · exact .inr ⟨p, hp, h1, h2⟩
def labL (L : List T3) (s : Nat) : Nat → Nat := L.foldl (labStep s) id
theorem rel_all {s : Nat} (hs : s < 512) (L : List T3) : Rel s (labL L s) (joinP L s) := by
  unfold labL joinP
  have : ∀ (l : List T3) at_ ps, IsPart s ps → Rel s at_ ps → Rel s (l.foldl (labStep s) at_) (l.foldl (joinS s) ps) := by
    intro l
    induction l with
    | nil => intro at_ ps _ R; exact R
    | cons t l ih => intro at_ ps h R; exact ih _ _ (join_step h t) (rel_step h R t)
  refine this L _ _ (sing_part hs) fun i j hi hj => ?_
  constructor
  · intro e
    have e : i = j := e
    subst e
    exact ⟨pw i, List.mem_map.2 ⟨i, (bits_mem hs).2 hi, rfl⟩, by rw [pw_test]; simp, by rw [pw_test]; simp⟩
  · rintro ⟨p, hp, h1, h2⟩
    obtain ⟨k, _, rfl⟩ := List.mem_map.1 hp
    rw [pw_test, decide_eq_true_eq] at h1 h2
    show i = j
    omega
/-- The beasts below k of one label. -/
def clsF (at_ : Nat → Nat) (s i : Nat) : Nat → Nat
  | 0 => 0
  | k + 1 => clsF at_ s i k + if at_ k = at_ i ∧ s.testBit k = true then pw k else 0
theorem clsF_lt (at_ : Nat → Nat) (s i : Nat) : ∀ k, clsF at_ s i k < pw k := by
  intro k
  induction k with
  | zero => exact pw_pos 0
  | succ k ih =>
    rw [clsF, pw_succ]
    split <;> omega
theorem clsF_test (at_ : Nat → Nat) (s i : Nat) : ∀ k j, (clsF at_ s i k).testBit j = true ↔ j < k ∧ at_ j = at_ i ∧ s.testBit j = true := by
  intro k
  induction k with
  | zero => intro j; simp [clsF]
  | succ k ih =>
    intro j
    rw [clsF]
    have hlt := clsF_lt at_ s i k
    by_cases hc : at_ k = at_ i ∧ s.testBit k = true
    · rw [if_pos hc]
      have e : clsF at_ s i k + pw k = pw k ||| clsF at_ s i k := by
        rw [Nat.add_comm]
        have := Nat.two_pow_add_eq_or_of_lt (i := k) hlt 1
        rw [Nat.mul_one] at this
        exact this
      rw [e, Nat.testBit_or, Bool.or_eq_true, ih, pw_test, decide_eq_true_eq]
      constructor
      · rintro (rfl | ⟨h1, h2⟩)
        · exact ⟨by omega, hc⟩
        · exact ⟨by omega, h2⟩
      · rintro ⟨h1, h2⟩
        by_cases e : k = j
        · exact .inl e
        · exact .inr ⟨by omega, h2⟩
    · rw [if_neg hc, Nat.add_zero, ih]
      constructor
      · rintro ⟨h1, h2⟩; exact ⟨by omega, h2⟩
      · rintro ⟨h1, h2⟩
        refine ⟨?_, h2⟩
        rcases Nat.lt_or_ge j k with h | h
        · exact h
        · have : j = k := by omega
          subst this
          exact absurd h2 hc
end Go.Proofs.YtfdaljekehkkaaaGreatDoor
