/- Layer 2: the mathematics of brands (M14). -/
import Derived.Test.YtflbaadfbjpakaaMf
import Derived.Test.YtflbaadfbjpakaaDg
namespace Go.Proofs.Ytflbaadfbjpakaa
open Go Go.RowKit

theorem cutL_nth {R : List Int} {c i : Nat} (h3 : 3 ≤ R.length) (hc : c < R.length) : nth (cutL R c) i = nth R (liN c i) - if liN c i = (c + R.length - 1) % R.length ∨ liN c i = (c + 1) % R.length then 1 else 0 := by
  have ha : (c + R.length - 1) % R.length < R.length := Nat.mod_lt _ (by omega)
  have hb : (c + 1) % R.length < R.length := Nat.mod_lt _ (by omega)
  have hab : (c + R.length - 1) % R.length ≠ (c + 1) % R.length := by
    rw [mod_small (by omega), mod_small (by omega)]; split <;> split <;> omega
  unfold cutL
  simp only []
  rw [nth_erase_li (by simpa using hc), nth_set (by simpa using hb)]
  rw [show nth (R.set ((c + R.length - 1) % R.length) (nth R ((c + R.length - 1) % R.length) - 1)) ((c + 1) % R.length) = nth R ((c + 1) % R.length) by rw [nth_set ha, if_neg hab.symm], nth_set ha]
  by_cases h1 : liN c i = (c + 1) % R.length
  · rw [if_pos h1, if_pos (.inr h1), h1]
  · rw [if_neg h1]
    by_cases h2 : liN c i = (c + R.length - 1) % R.length
    · rw [if_pos h2, if_pos (.inl h2), h2]
    · rw [if_neg h2, if_neg (by omega), Int.sub_zero]
theorem nth_insV {X : List Int} {p : Nat} {x : Int} (hp : p ≤ X.length) (t : Nat) : nth (insV X p x) t = if t < p then nth X t else if t = p then x else nth X (t - 1) := by
  unfold nth
  rw [List.getD_eq_getElem?_getD, insV_get _ _ _ hp]
  split
  · rw [List.getD_eq_getElem?_getD]
  · split
    · rfl
    · rw [List.getD_eq_getElem?_getD]
theorem glue_nth {xs : List Int} {c : Nat} (hc : c < xs.length) (t : Nat) : nth (glueL xs c) t = if t = c + 1 then 1 else
    nth xs (if t ≤ c then t else t - 1) + (if (if t ≤ c then t else t - 1) = c then 1 else 0) + (if (if t ≤ c then t else t - 1) = (c + 1) % xs.length then 1 else 0) := by
  unfold glueL
  have hn : (c + 1) % xs.length < xs.length := Nat.mod_lt _ (by omega)
  rw [nth_insV (by rw [bump_length, bump_length]; omega)]
  by_cases h1 : t < c + 1
  · rw [if_pos h1, if_neg (by omega), if_pos (by omega), nth_bump (by rw [bump_length]; exact hn), nth_bump hc]
  · rw [if_neg h1]
    by_cases h2 : t = c + 1
    · rw [if_pos h2, if_pos h2]
    · rw [if_neg h2, if_neg h2, if_neg (by omega), nth_bump (by rw [bump_length]; exact hn), nth_bump hc]
/-- Cut at an ear and glued again: the same list, up to its beginning. -/
theorem glue_back {R : List Int} {c : Nat} (h4 : 4 ≤ R.length) (hc : c < R.length) (h1 : nth R c = 1) : ∃ s, s < R.length ∧ ∀ i, i < R.length → nth R i = nth (glueL (cutL R c) ((c + R.length - 2) % (R.length - 1))) ((i + s) % R.length) := by
  have hl := cutL_length hc
  obtain ⟨n, hn⟩ : ∃ n, R.length = n + 1 := ⟨R.length - 1, by omega⟩
  rw [hn] at hc h4 ⊢
  rw [hn, Nat.add_sub_cancel] at hl
  rw [Nat.add_sub_cancel, show c + (n + 1) - 2 = c + n - 1 by omega]
  have hcn := fun i => cutL_nth (R := R) (c := c) (i := i) (by omega) (by omega)
  have ep : (c + R.length - 1) % R.length = if c = 0 then n else c - 1 := by rw [hn, mod_small (by omega)]; split <;> split <;> omega
  have en : (c + 1) % R.length = if c = n then 0 else c + 1 := by rw [hn, mod_small (by omega)]; split <;> split <;> omega
  by_cases h0 : c = 0
  · subst h0
    rw [if_pos rfl] at ep
    rw [if_neg (by omega)] at en
    rw [ep, en] at hcn
    have eg : (0 + n - 1) % n = n - 1 := by rw [Nat.zero_add, Nat.mod_eq_of_lt (by omega)]
    rw [eg]
    refine ⟨n, by omega, fun i hi => ?_⟩
    have em : (i + n) % (n + 1) = if i = 0 then n else i - 1 := by rw [mod_small (by omega)]; split <;> split <;> omega
    rw [em, glue_nth (by omega), hl, show n - 1 + 1 = n by omega, Nat.mod_self]
    by_cases hi0 : i = 0
    · subst hi0
      rw [if_pos rfl, if_pos rfl, h1]
    · rw [if_neg hi0, if_neg (by omega), if_pos (by omega), hcn]
      have el : liN 0 (i - 1) = i := by unfold liN; rw [if_neg (by omega)]; omega
      rw [el]
      split <;> split <;> split <;> omega
  · rw [ep, en] at hcn
    have eg : (c + n - 1) % n = c - 1 := by rw [mod_small (by omega)]; split <;> omega
    rw [eg]
    refine ⟨0, by omega, fun i hi => ?_⟩
    have e2 : (c - 1 + 1) % n = if c = n then 0 else c := by
      rw [show c - 1 + 1 = c by omega]
      by_cases h : c = n
      · rw [if_pos h, h, Nat.mod_self]
      · rw [if_neg h, Nat.mod_eq_of_lt (by omega)]
    rw [Nat.add_zero, Nat.mod_eq_of_lt hi, glue_nth (by omega), hl, e2, show c - 1 + 1 = c by omega]
    by_cases hic : i = c
    · rw [if_pos hic, hic, h1]
    · rw [if_neg hic]
      by_cases hle : i ≤ c - 1
      · have el : liN c i = i := by unfold liN; rw [if_pos (by omega)]
        rw [if_pos hle, hcn, el, if_neg h0]
        by_cases hcl : c = n
        · rw [if_pos hcl, if_pos hcl]
          split <;> split <;> split <;> omega
        · rw [if_neg hcl, if_neg hcl]
          (repeat' split) <;> omega
      · have el : liN c (i - 1) = i := by unfold liN; rw [if_neg (by omega)]; omega
        rw [if_neg hle, hcn, el, if_neg h0]
        by_cases hcl : c = n
        · omega
        · rw [if_neg hcl, if_neg hcl]
          (repeat' split) <;> omega
theorem round_tame {m : Nat} {L : List (Int × Int)} (hf : Full ((m + 3 : Nat) : Int) L) (hm : m ≤ 9) : Tame (roundL (m + 3) L) := by
  intro i hi
  rw [(nth_round hf).1] at hi
  have := round_bds m hf i hi
  omega
theorem two_ones : ∀ (m : Nat) {L : List (Int × Int)}, m ≤ 8 → Full ((m + 4 : Nat) : Int) L → ∃ i j, i < m + 4 ∧ j < m + 4 ∧ i ≠ j ∧ nth (roundL (m + 4) L) i = 1 ∧ nth (roundL (m + 4) L) j = 1 := by
  intro m
  induction m with
  | zero =>
    intro L _ h
    obtain ⟨x, x0, x1, hb⟩ := bare_in h
    have hear := (h.ear (by omega) hb (by omega) (by omega)).2
    rw [show ((0 + 4 : Nat) : Int) - 1 = ((0 + 3 : Nat) : Int) by omega] at hear
    have hr := fun c => round_cut h hb (by omega) (by omega) c
    rw [show 0 + 4 - 1 = 0 + 3 by omega, full_three hear] at hr
    have hex : ex ((0 + 4 : Nat) : Int) x = ((x : Int) - 1, (x : Int) + 1) := by unfold ex; rw [if_neg (by omega), if_neg (by omega)]
    rw [hex] at hr
    simp only [] at hr
    have : x = 1 ∨ x = 2 := by omega
    rcases this with rfl | rfl
    · refine ⟨1, 3, by omega, by omega, by omega, by rw [hr, if_pos rfl], ?_⟩
      rw [hr, if_neg (by omega), if_neg (by omega)]
      decide
    · refine ⟨2, 0, by omega, by omega, by omega, by rw [hr, if_pos rfl], ?_⟩
      rw [hr, if_neg (by omega), if_neg (by omega)]
      decide
  | succ m ih =>
    intro L hm h
    rw [show m + 1 + 4 = m + 5 by omega] at h ⊢
    obtain ⟨x, x0, x1, hb⟩ := bare_in (m := m + 1) h
    have hear := (h.ear (by omega) hb (by omega) (by omega)).2
    rw [show ((m + 5 : Nat) : Int) - 1 = ((m + 4 : Nat) : Int) by omega] at hear
    have hr := fun c => round_cut h hb (by omega) (by omega) c
    rw [show m + 5 - 1 = m + 4 by omega] at hr
    have hex : ex ((m + 5 : Nat) : Int) x = ((x : Int) - 1, (x : Int) + 1) := by unfold ex; rw [if_neg (by omega), if_neg (by omega)]
    rw [hex] at hr
    simp only [] at hr
    obtain ⟨i, j, hi, hj, hij, r1, r2⟩ := ih (by omega) hear
    have hl := (nth_round hear).1
    have hG : Good (roundL (m + 4) (cutB ((m + 5 : Nat) : Int) x L)) := good_round (m + 1) hear
    have hT : Tame (roundL (m + 4) (cutB ((m + 5 : Nat) : Int) x L)) := round_tame (m := m + 1) hear (by omega)
    have e1 := good_one hT hG (by omega) (j := i) (by omega) r1
    unfold EarP at e1
    rw [hl] at e1
    have key : ∀ k, k < m + 4 → nth (roundL (m + 4) (cutB ((m + 5 : Nat) : Int) x L)) k = 1 → k ≠ x - 1 → k ≠ x → nth (roundL (m + 5) L) (liN x k) = 1 := by
      intro k hk h1 h2 h3
      rw [hr, if_neg (liN_ne _ _), shN_liN, h1, if_neg (by unfold liN; split <;> omega)]
      rfl
    have hk : ∃ k, k < m + 4 ∧ nth (roundL (m + 4) (cutB ((m + 5 : Nat) : Int) x L)) k = 1 ∧ k ≠ x - 1 ∧ k ≠ x := by
      by_cases c1 : i = x - 1 ∨ i = x
      · refine ⟨j, hj, r2, ?_, ?_⟩
        · intro e
          have hi' : i = x := by omega
          have := e1.2.1
          rw [mod_small (by omega), if_neg (by omega), show i + (m + 4) - 1 - (m + 4) = j by omega, r2] at this
          omega
        · intro e
          have hi' : i = x - 1 := by omega
          have := e1.2.2
          rw [mod_small (by omega), if_pos (by omega), show i + 1 = j by omega, r2] at this
          omega
      · exact ⟨i, hi, r1, by omega, by omega⟩
    obtain ⟨k, k1, k2, k3, k4⟩ := hk
    exact ⟨x, liN x k, by omega, by unfold liN; split <;> omega, (liN_ne _ _).symm, by rw [hr, if_pos rfl], key k k1 k2 k3 k4⟩
end Go.Proofs.Ytflbaadfbjpakaa
