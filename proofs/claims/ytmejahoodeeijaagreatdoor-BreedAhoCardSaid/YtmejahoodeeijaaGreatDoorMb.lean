/- Layer 5: one of Build and Knot succeeds; with more triples Build does not succeed where it failed. -/
import Derived.Test.YtmejahoodeeijaaGreatDoorMa
namespace Go.Proofs.YtmejahoodeeijaaGreatDoor
open Go Go.RowKit

theorem cntF_mono {a b : Nat} (h : inB a b = true) : ∀ k, cntF a k ≤ cntF b k := by
  intro k
  induction k with
  | zero => exact Nat.le_refl _
  | succ k ih =>
    have : bt a k ≤ bt b k := by
      rw [bt_test, bt_test]
      cases ha : a.testBit k
      · simp
      · rw [inB_iff.1 h k ha]; exact Nat.le_refl _
    simp only [cntF]
    omega
theorem cnt_threeB : ((List.range 9).all fun x => (List.range 9).all fun y => (List.range 9).all fun z => x == y || x == z || y == z || cntF (pw x ||| pw y ||| pw z) 9 == 3) = true := by decide +kernel
theorem cnt_three (x : Nat) (hx : x < 9) (y : Nat) (hy : y < 9) (z : Nat) (hz : z < 9) (h1 : x ≠ y) (h2 : x ≠ z) (h3 : y ≠ z) : cntF (pw x ||| pw y ||| pw z) 9 = 3 := by
  have := List.all_eq_true.1 (List.all_eq_true.1 (List.all_eq_true.1 cnt_threeB x (List.mem_range.2 hx)) y (List.mem_range.2 hy)) z (List.mem_range.2 hz)
  simpa [h1, h2, h3] using this
theorem join_small {s : Nat} (h : cntF s 9 < 3) (l : List T3) (hl : ∀ t ∈ l, Tri t) : joinP l s = singL s := by
  have : ∀ (l : List T3) (ps : List Nat), (∀ t ∈ l, Tri t) → l.foldl (joinS s) ps = ps := by
    intro l
    induction l with
    | nil => intro ps _; rfl
    | cons t l ih =>
      intro ps hl
      have e : joinS s ps t = ps := by
        unfold joinS
        obtain ⟨x, y, z, rfl, hx, hy, hz, h1, h2, h3⟩ := hl t (by simp)
        rw [if_neg]
        intro hin
        have h4 := cntF_mono hin 9
        have h5 := cnt_three x hx y hy z hz h1 h2 h3
        unfold abcOf abOf at h4
        simp only [Int.toNat_natCast] at h4
        omega
      rw [List.foldl_cons, e]
      exact ih ps fun t ht => hl t (by simp [ht])
  exact this l _ hl
theorem sing_cnt (s : Nat) : (singL s).length = cntF s 9 := by
  unfold singL bitsL
  rw [List.length_map, cntF_len]
/-- Where nothing is built, some set of three beasts or more is joined to just one part. -/
theorem buildT_none (l : List T3) (hl : ∀ t ∈ l, Tri t) : ∀ f s, s < f → 0 < s → s < 512 → buildT l f s = none → ∃ s', inB s' s = true ∧ kntB l s' = true := by
  intro f
  induction f with
  | zero => intro s h; omega
  | succ f ih =>
    intro s hsf h0 hs h
    rw [buildT] at h
    by_cases h1 : cntF s 9 = 1
    · rw [if_pos h1] at h; cases h
    · rw [if_neg h1] at h
      have h2 := cnt_two hs h0 h1
      by_cases h3 : (partsL l s).length = 1
      · refine ⟨s, inB_refl s, ?_⟩
        unfold kntB
        rw [decide_eq_true h3, Bool.and_true, decide_eq_true_eq]
        refine Nat.le_of_not_lt fun hlt => ?_
        rw [parts_len, join_small hlt l hl, sing_cnt] at h3
        omega
      · rw [if_neg h3] at h
        have hp := parts_part hs l
        have hlen : 2 ≤ (partsL l s).length := by
          have : (partsL l s).length ≠ 0 := fun e => by
            obtain ⟨i, hi⟩ := ex_bit (show s ≠ 0 by omega)
            obtain ⟨p, hpm, _⟩ := (hp.all i).1 hi
            rw [List.length_eq_zero_iff.1 e] at hpm
            cases hpm
          omega
        have hno : ∃ p ∈ partsL l s, buildT l f p = none := by
          refine Classical.byContradiction fun hno => ?_
          have : ∀ ps : List Nat, (∀ p ∈ ps, p ∈ partsL l s) → allO (buildT l f) ps ≠ none := by
            intro ps
            induction ps with
            | nil => intro _ h; cases h
            | cons p ps ih2 =>
              intro hps
              have hpm := hps p (by simp)
              have h4 := ih2 fun q hq => hps q (by simp [hq])
              cases hb : buildT l f p with
              | none => exact absurd ⟨p, hpm, hb⟩ hno
              | some y =>
                cases hy : allO (buildT l f) ps with
                | none => exact absurd hy h4
                | some ys => simp only [allO, hb, hy]; intro h; cases h
          have h5 := this _ fun p h => h
          cases ha : allO (buildT l f) (partsL l s) with
          | none => exact h5 ha
          | some ts => rw [ha] at h; cases h
        obtain ⟨p, hpm, hpn⟩ := hno
        have hlt := hp.lt hlen hpm
        obtain ⟨s', h6, h7⟩ := ih p (by omega) (Nat.pos_of_ne_zero (hp.some p hpm)) (by omega) hpn
        exact ⟨s', inB_trans h6 (hp.sub hpm), h7⟩
/-- Triples of m beasts. -/
structure Mem (m : Nat) (L : List T3) : Prop where
  one : 1 ≤ m
  eight : m ≤ 8
  tri : ∀ t ∈ L, isT m t = true
theorem mem_of {n : Int} {L : List T3} (h : memE n L = 0) : ∃ m : Nat, n = (m : Int) ∧ Mem m L ∧ L.length ≤ 60 := by
  obtain ⟨m, h1, h2, h3, h4, h5⟩ := memE_ok h
  subst h1
  exact ⟨m, rfl, ⟨h2, h3, h4⟩, h5⟩
theorem isT_in {m : Nat} {t : T3} (h8 : m ≤ 8) (h : isT m t = true) : inB (abcOf t) (pw m - 1) = true := by
  unfold isT beaB at h
  simp only [Bool.and_eq_true, decide_eq_true_eq] at h
  obtain ⟨a, b, c⟩ := t
  dsimp only at h
  have hb : ∀ x : Nat, x < m → inB (pw x) (pw m - 1) = true := fun x hx => by
    rw [inB_pw]
    have e : (pw m - 1).testBit x = decide (x < m) := by unfold pw; exact Nat.testBit_two_pow_sub_one m x
    rw [e]; exact decide_eq_true hx
  unfold abcOf abOf
  rw [inB_or, inB_or]
  exact ⟨⟨hb _ (by dsimp only; omega), hb _ (by dsimp only; omega)⟩, hb _ (by dsimp only; omega)⟩
theorem aho_shows {m : Nat} {L : List T3} (h : Mem m L) {t : Tr} (ht : bldT m L = some t) : L.all (shoB t) = true := by
  obtain ⟨a, b, c⟩ := full_bd h.one h.eight
  rw [List.all_eq_true]
  exact fun x hx => buildT_shows L (fun t ht => tri_of (h.tri t ht) (by have := h.eight; omega)) 300 _ t (by omega) a ht x hx (isT_in h.eight (h.tri x hx))
theorem aho_some {m : Nat} {L : List T3} (h : Mem m L) {t : Tr} (hg : Good m t) (hs : t.set = pw m - 1) (hx : L.all (shoB t) = true) : (bldT m L).isSome = true := by
  obtain ⟨a, b, c⟩ := full_bd h.one h.eight
  exact buildT_some hg L (List.all_eq_true.1 hx) 300 _ b a (by omega) (by rw [hs]; exact inB_refl _)
theorem inB_full {m s : Nat} (h : s < pw m) : inB s (pw m - 1) = true := inB_iff.2 fun i hi => by
  have e : (pw m - 1).testBit i = decide (i < m) := by unfold pw; exact Nat.testBit_two_pow_sub_one m i
  rw [e]; exact decide_eq_true (test_lt h hi)
theorem aho_knot {m : Nat} {L : List T3} (h : Mem m L) : (bldT m L).isSome = (FirstN (kntB L) (pw m)).isNone := by
  obtain ⟨a, b, c⟩ := full_bd h.one h.eight
  have h8 := pw_mono (k := 8) h.eight
  have h256 : pw 8 = 256 := rfl
  cases hb : bldT m L with
  | none =>
    obtain ⟨s', h1, h2⟩ := buildT_none L (fun t ht => tri_of (h.tri t ht) (by have := h.eight; omega)) 300 _ b a (by omega) hb
    have hlt : s' < pw m := by have := inB_le h1; omega
    cases hf : FirstN (kntB L) (pw m) with
    | none =>
      unfold FirstN at hf
      rw [List.find?_eq_none] at hf
      exact absurd h2 (hf s' (List.mem_range.2 hlt))
    | some s => rfl
  | some t =>
    obtain ⟨hg, hs⟩ := bldT_good h.one h.eight hb
    have hsh := aho_shows h hb
    rw [firstN_none]
    · rfl
    · intro s hlt
      unfold kntB
      by_cases h3 : 3 ≤ cntF s 9
      · have := parts_two (s := s) (by omega) (by omega) hg (by rw [hs]; exact inB_full hlt) L (List.all_eq_true.1 hsh)
        rw [parts_len, decide_eq_false this, Bool.and_false]
      · rw [decide_eq_false h3]; rfl
end Go.Proofs.YtmejahoodeeijaaGreatDoor
