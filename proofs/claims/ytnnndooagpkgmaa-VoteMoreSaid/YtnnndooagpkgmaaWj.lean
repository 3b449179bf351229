/- Layer 3, the laws: a list that came in is copied. -/
import Derived.Test.YtnnndooagpkgmaaWi
import Derived.Laws.AppendOwnNone
namespace Go.Proofs.Ytnnndooagpkgmaa
open Go Go.RowKit

theorem lI_one (xs : List Int) : ∀ u ∈ lI xs, u.oneCell' = true := fun u hu => by
  obtain ⟨x, _, rfl⟩ := List.mem_map.1 hu
  rfl
/-- 'append([]int{}, xs...)': a copy of the call's own, nil or not. -/
theorem wpList_copy {ops : Array Oper} {rest : List Oper} {o : Oper} {a : Act} {Q : Exit → Act → World → Prop} {w : World} (hgd : o.guard = none) (s x : Operand)
    (ho : o.op = .call { callee := .builtin .append, args := #[s, x], argTypes := #[22, 22] })
    (base : Nat) (v : Value) (hs : a.eval s = v) (hown : w.ownsRow base 3 1 v 0 []) (ad : Option Addr) (n c : Nat) (xs : List Int) (hx : a.eval x = .slice ad n c)
    (hI : Ints w ad xs) (hl : xs.length = n) (hnil : ad = none → c = 0) (hn : n ≤ 1000) (hbase : base ≤ w.heap.size)
    (h : ∀ a' c' w', w'.ownsRow base 3 1 (.slice a' n c') n (lI xs) → w.grownBy w' v.ownBlock → n ≤ c' → Ints w' a' xs → wpList Try.prog ops Q rest (a.put o.dst (.slice a' n c')) w') : wpList Try.prog ops Q (o :: rest) a w := by
  obtain ⟨i0, hi, hz0, hz1, hz2⟩ := info_parts infoInt
  cases ad with
  | none =>
    have hn0 : n = 0 := by
      rcases hI with h0 | ⟨b, off, e, _⟩
      · omega
      · cases e
    subst hn0
    have hc : c = 0 := hnil rfl
    subst hc
    have hx0 : xs = [] := List.eq_nil_of_length_eq_zero hl
    subst hx0
    refine wpList_append_own_none hgd s x 22 ho base 3 i0 1 Try.underlying22 hi v 0 [] hs hown hx ?_
    obtain ⟨a', c', rfl, hc', hI'⟩ := own_intsA (xs := []) hown rfl
    exact h a' c' w hown ⟨rfl, rfl, rfl, Nat.le_refl _, fun _ _ _ => rfl⟩ hc' hI'
  | some ad =>
    refine wpList_append_own _ hgd s x 22 ho base 3 i0 (.int .i64 0) 1 8 Try.underlying22 hi hz0 hz1 hz2 rfl (by decide) v 0 [] hs hown ad n c (lI xs) hx (by rw [lI_length]; omega) ?_ (lI_one xs) (by unfold maxLen; omega) (by omega) hbase ?_
    · intro j u hj
      have hjl : j < xs.length := by have := (List.getElem?_eq_some_iff.1 hj).1; rwa [lI_length] at this
      rcases hI with h0 | ⟨b, off, e, hc⟩
      · omega
      · cases e
        rw [lI_get hjl] at hj
        cases hj
        have ha : Addr.add ⟨b, off, none⟩ j = ⟨b, off + j, none⟩ := by simp [Addr.add]
        rw [ha]
        exact hc j hjl
    · intro v' w' hown' hg _
      rw [Nat.zero_add, List.nil_append] at hown'
      obtain ⟨a', c', rfl, hc', hI'⟩ := own_intsA hown' hl
      exact h a' c' w' hown' hg hc' hI'
end Go.Proofs.Ytnnndooagpkgmaa
