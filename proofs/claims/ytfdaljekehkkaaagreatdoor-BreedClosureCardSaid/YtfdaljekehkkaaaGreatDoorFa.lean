/- Layer 5: built trees are trees in their order, and short. -/
import Derived.Test.YtfdaljekehkkaaaGreatDoorEd
namespace Go.Proofs.YtfdaljekehkkaaaGreatDoor
open Go Go.RowKit

theorem cntF_or {a b : Nat} (h : a &&& b = 0) : ∀ k, cntF (a ||| b) k = cntF a k + cntF b k := by
  intro k
  induction k with
  | zero => rfl
  | succ k ih =>
    simp only [cntF, ih, bt_test, Nat.testBit_or]
    have := and_zero.1 h k
    cases ha : a.testBit k <;> cases hb : b.testBit k
    · simp
    · simp; omega
    · simp; omega
    · rw [this ha] at hb; cases hb
theorem setL_apart {k : Tr} {ks : List Tr} (h : ∀ t ∈ ks, k.set &&& t.set = 0) : k.set &&& setL ks = 0 := by
  rw [and_zero]
  intro i hi
  rw [setL_test, List.any_eq_false]
  intro t ht
  rw [and_zero.1 (h t ht) i hi]; simp
theorem conL_len {ks : List Tr} (hp : (ks.map Tr.set).Pairwise fun a b => a &&& b = 0) (hl : ∀ t ∈ ks, t.txt.length + 3 ≤ 4 * cntF t.set 9) : (conL ks).length + 2 * ks.length ≤ 4 * cntF (setL ks) 9 := by
  induction ks with
  | nil => simp [conL]
  | cons k ks ih =>
    rw [List.map_cons, List.pairwise_cons] at hp
    have h1 := ih hp.2 fun t ht => hl t (by simp [ht])
    have h2 := hl k (by simp)
    have h3 := cntF_or (setL_apart (k := k) (ks := ks) fun t ht => hp.1 _ (List.mem_map_of_mem ht)) 9
    simp only [conL, setL, List.length_cons, List.length_append]
    rw [h3]
    omega
/-- A tree of n beasts is at most n digits and 3 (n - 1) other signs long. -/
theorem Good.len {m : Nat} (hm : m ≤ 9) : ∀ t, Good m t → t.txt.length + 3 ≤ 4 * cntF t.set 9 := by
  intro t
  induction t using Tr.ind with
  | h1 b =>
    intro h
    simp only [Good] at h
    have : ∀ b, b < 9 → cntF (pw b) 9 = 1 := by decide
    simp only [Tr.txt, Tr.set, this b (by omega), List.length_singleton]
    omega
  | h2 ks ih =>
    intro h
    simp only [Good] at h
    obtain ⟨h2, hp, hg⟩ := h
    have hc := conL_len (ks := ks) (hp.imp fun h => h.1) fun t ht => ih t ht (goodL_iff.1 hg t ht)
    have e : (txtL ks).length + 1 = (conL ks).length := by
      cases ks with
      | nil => simp at h2
      | cons k ks => simp [txtL, conL]
    simp only [Tr.txt, Tr.set, List.length_cons, List.length_append, List.length_nil]
    omega
theorem Good.short {m : Nat} (hm : m ≤ 9) {t : Tr} (h : Good m t) : t.txt.length ≤ 33 := by
  have h1 := h.len hm
  have h2 := cntF_le t.set 9
  omega
theorem sortT_len (ts : List Tr) : (sortT ts).length = ts.length := List.length_mergeSort _
theorem joinT_good {m : Nat} {ts : List Tr} (h0 : ts ≠ []) (hg : ∀ t ∈ ts, Good m t) (hd : ts.Pairwise (fun a b => lowB a.set ≠ lowB b.set)) (ha : ts.Pairwise (fun a b => a.set &&& b.set = 0)) : Good m (joinT ts) := by
  by_cases h1 : ts.length = 1
  · obtain ⟨t, rfl⟩ := List.length_eq_one_iff.1 h1
    exact hg t (by simp)
  · rw [joinT_many h1]
    have hperm : (sortT ts).Perm ts := List.mergeSort_perm _ _
    simp only [Good]
    refine ⟨?_, ?_, ?_⟩
    · rw [sortT_len]
      have : ts.length ≠ 0 := fun e => h0 (List.length_eq_zero_iff.1 e)
      omega
    · rw [List.pairwise_map]
      have p1 : (sortT ts).Pairwise (fun a b => leT a b = true) := List.pairwise_mergeSort (fun a b c h k => by simp only [leT, decide_eq_true_eq] at *; omega) (fun a b => by simp only [leT, Bool.or_eq_true, decide_eq_true_eq]; omega) ts
      have p2 : (sortT ts).Pairwise (fun a b => lowB a.set ≠ lowB b.set) := (hperm.pairwise_iff fun {a b} h => h.symm).2 hd
      have p3 : (sortT ts).Pairwise (fun a b => a.set &&& b.set = 0) := (hperm.pairwise_iff fun {a b} h => by rw [Nat.and_comm]; exact h).2 ha
      refine (p1.and (p2.and p3)).imp ?_
      rintro a b ⟨q1, q2, q3⟩
      simp only [leT, decide_eq_true_eq] at q1
      exact ⟨q3, by omega⟩
    · rw [goodL_iff]
      exact fun t ht => hg t (hperm.mem_iff.1 ht)
theorem buildT_good (l : List T3) {m : Nat} (hm : m ≤ 9) : ∀ f s t, s < pw m → 0 < s → buildT l f s = some t → Good m t := by
  have hm5 : pw m ≤ 512 := pw_mono (k := 9) hm
  intro f
  induction f with
  | zero => intro s t _ _ h; simp [buildT] at h
  | succ f ih =>
    intro s t hs h0 h
    rw [buildT] at h
    by_cases h1 : cntF s 9 = 1
    · rw [if_pos h1] at h
      cases h
      obtain ⟨e, _⟩ := cnt_one s (by omega) h1
      simp only [Good]
      refine Nat.lt_of_not_le fun hle => ?_
      have := pw_mono hle
      omega
    · rw [if_neg h1] at h
      by_cases h2 : (partsL l s).length = 1
      · rw [if_pos h2] at h; cases h
      · rw [if_neg h2] at h
        cases ha : allO (buildT l f) (partsL l s) with
        | none => rw [ha] at h; cases h
        | some ts =>
          rw [ha] at h
          simp only [Option.map_some, Option.some.injEq] at h
          subst h
          have hp := parts_part (s := s) (by omega) l
          obtain ⟨e1, e2⟩ := allO_some.1 ha
          have hlt : ∀ p ∈ partsL l s, p < pw m ∧ 0 < p := fun p hm => ⟨Nat.lt_of_le_of_lt (inB_le (hp.sub hm)) hs, Nat.pos_of_ne_zero (hp.some _ hm)⟩
          have he : ts.map Tr.set = partsL l s := by
            apply List.ext_getElem (by simp [e1])
            intro i h1 h2
            rw [List.getElem_map]
            have hm := hlt _ (List.getElem_mem h2)
            exact buildT_set l f _ _ (by omega) hm.2 (e2 i h2 (by omega))
          obtain ⟨q1, q2, q3⟩ := parts_good (by omega) hp he
          refine joinT_good ?_ ?_ q2 ?_
          · rintro rfl
            simp [setL] at q3
            omega
          · intro t ht
            obtain ⟨i, hi, rfl⟩ := List.mem_iff_getElem.1 ht
            have hm := hlt _ (List.getElem_mem (l := partsL l s) (n := i) (by omega))
            exact ih _ _ hm.1 hm.2 (e2 i (by omega) hi)
          · have := hp.apart
            rwa [← he, List.pairwise_map] at this
/-- The triples were found to be some of n beasts. -/
theorem memE_ok {n : Int} {L : List T3} (h : memE n L = 0) : ∃ m : Nat, n = (m : Int) ∧ 1 ≤ m ∧ m ≤ 8 ∧ (∀ t ∈ L, isT n t = true) ∧ L.length ≤ 60 := by
  unfold memE at h
  by_cases h1 : numB n = false
  · rw [if_pos h1] at h; omega
  · rw [if_neg h1] at h
    by_cases h2 : 60 < L.length
    · rw [if_pos h2] at h; omega
    · rw [if_neg h2] at h
      by_cases h3 : L.all (isT n) = true
      · rw [Bool.not_eq_false] at h1
        unfold numB at h1
        simp only [Bool.and_eq_true, decide_eq_true_eq] at h1
        exact ⟨n.toNat, by omega, by omega, by omega, fun t ht => List.all_eq_true.1 h3 t ht, by omega⟩
      · rw [if_neg h3] at h; omega
end Go.Proofs.YtfdaljekehkkaaaGreatDoor
