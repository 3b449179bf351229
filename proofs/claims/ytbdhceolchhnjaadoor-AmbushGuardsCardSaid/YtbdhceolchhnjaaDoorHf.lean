/- Layer 4, by the program: Least; lists turned around, and one longer. -/
import Derived.Test.YtbdhceolchhnjaaDoorHe
import Derived.Test.YtbdhceolchhnjaaDoorQc
import Derived.Laws.AppendOwnNone
namespace Go.Proofs.YtbdhceolchhnjaaDoor
open Go Go.RowKit

/-- Least, of a field: a new list. -/
def NewIE (L : List Int) (w : World) (e : Ending) (w' : World) : Prop := ∃ a c, e = .returned (.tuple #[.slice a L.length c, .int .i64 0]) ∧ Ints w' a L ∧ Below w.heap.size w w'
set_option maxRecDepth 100000 in
set_option maxHeartbeats 1000000 in
theorem Least_ok (m : Nat) (a : Option Addr) (n c : Nat) (R : List Int) (w : World) (hF : FieldP m R) (h : Ints w a R) (hn : R.length = n) :
    Calls Tryd.prog 28 #[.int .i64 (m : Nat), .slice a n c] w (NewIE (lNi (lqTo R (pw m))) w) := by
  have F := Lib.hid (show Calls Tryd.prog 51 #[.int .i64 (m : Nat), .slice a n c] w (Ret (.tuple #[fV m a n c, .int .i64 0]) w) from by
    have := newField_late a n c R w m h hn hF.pos hF.le (by have := hF.few; omega)
    rw [if_pos (fE_field hF), fE_field hF] at this
    exact this)
  have L := Lib.hid (fun W hW => least_any m a n c R W hF hW hn)
  have hI := Lib.hid h
  clear h hn
  replace hF := Lib.hid hF
  go_enter Tryd.func28, Tryd.ntmps28
  go_wp2_with (go_at_call 51; refine F.out.mono ?_; rintro e w1 ⟨rfl, hb1⟩)
  have B0 := nextB hb1 (b1 w1 (.cells #[.int .i64 (m : Nat), .slice a n c] 60))
  refine (L.out _ (hI.out.next B0)).mono ?_
  rintro e w2 ⟨v, rfl, ho, hb2⟩
  dsimp only
  obtain ⟨a2, c2, rfl, _, hI2⟩ := own_intsA ho rfl
  clear ho
  replace hI2 := Lib.hid hI2
  go_wp2
  go_ret2
  exact ⟨a2, c2, rfl, hI2.out, nextB B0 hb2⟩
theorem least_len {m : Nat} {R : List Int} (hF : FieldP m R) : FieldP m (lNi (lqTo R (pw m))) := by
  refine ⟨hF.pos, hF.le, ?_, ?_⟩
  · have hb0 := lNi_back (R := R) (fun z hz => (hF.line z hz).1)
    have hL : ∀ x ∈ R, 0 ≤ x ∧ x.toNat < pw m := fun x hx => ⟨by have := (hF.line x hx).1; omega, (hF.line x hx).2⟩
    have key := keepL_of (L := R) (S := R.mergeSort fun x y => decide (x ≤ y)) (N := pw m) (List.mergeSort_perm _ _) (by
      have := List.pairwise_mergeSort (le := fun x y : Int => decide (x ≤ y)) (by intro a b c h1 h2; simp at *; omega) (by intro a b; simp; omega) R
      exact this.imp (fun h => by simpa using h)) hL
    rw [← key]
    have h1 := keepL_len (R.mergeSort fun x y => decide (x ≤ y)) []
    have h2 := hF.few
    simp at h1
    omega
  · intro z hz
    obtain ⟨k, hk, rfl⟩ := List.mem_map.1 hz
    obtain ⟨_, hk2⟩ := List.mem_filter.1 hk
    obtain ⟨⟨x, hx, e⟩, _⟩ := lq_iff.1 hk2
    have h1 := hF.line x hx
    subst e
    have : ((x.toNat : Nat) : Int) = x := by omega
    show 1 ≤ ((x.toNat : Nat) : Int) ∧ ((x.toNat : Nat) : Int).toNat < pw m
    rw [this]
    exact h1
theorem back_field {m : Nat} {R : List Int} (hF : FieldP m R) : FieldP m R.reverse :=
  ⟨hF.pos, hF.le, by rw [List.length_reverse]; exact hF.few, fun z hz => hF.line z (List.mem_reverse.1 hz)⟩
theorem back_has (R : List Int) (s : Nat) : hasOne R.reverse s = hasOne R s := by unfold hasOne; rw [List.any_reverse]
theorem more_has (R : List Int) (z : Int) (s : Nat) (h : hasOne R s = true) : hasOne (R ++ [z]) s = true := by
  unfold hasOne at *
  rw [List.any_append, h]
  rfl
theorem back_take {R : List Int} {k : Nat} (h : k < R.length) : R.reverse.take (k + 1) = R.reverse.take k ++ [nth R (R.length - 1 - k)] := by
  have hl : k < R.reverse.length := by rw [List.length_reverse]; exact h
  rw [List.take_succ_eq_append_getElem hl, List.getElem_reverse]
  congr 2
  have : R.length - 1 - k < R.length := by omega
  simp [nth, this]
theorem lI_one (xs : List Int) : ∀ u ∈ lI xs, u.oneCell' = true := fun u hu => by
  obtain ⟨x, _, rfl⟩ := List.mem_map.1 hu
  rfl
/-- 'append([]int{}, xs...)': a copy of the call's own, nil or not. -/
theorem wpList_copyI {ops : Array Oper} {rest : List Oper} {o : Oper} {a : Act} {Q : Exit → Act → World → Prop} {w : World} (hgd : o.guard = none) (s x : Operand)
    (ho : o.op = .call { callee := .builtin .append, args := #[s, x], argTypes := #[22, 22] })
    (base : Nat) (v : Value) (hs : a.eval s = v) (hown : w.ownsRow base 3 1 v 0 []) (ad : Option Addr) (n c : Nat) (xs : List Int) (hx : a.eval x = .slice ad n c)
    (hI : Ints w ad xs) (hl : xs.length = n) (hnil : ad = none → c = 0) (hn : n ≤ 1000) (hbase : base ≤ w.heap.size)
    (h : ∀ v' w', w'.ownsRow base 3 1 v' n (lI xs) → w.grownBy w' v.ownBlock → wpList Tryd.prog ops Q rest (a.put o.dst v') w') : wpList Tryd.prog ops Q (o :: rest) a w := by
  obtain ⟨i0, hi, hz0, hz1, hz2⟩ := info_parts infoInt'
  cases ad with
  | none =>
    have hn0 : n = 0 := by
      rcases hI with h0 | ⟨b, off, e, _⟩
      · omega
      · cases e
    subst hn0
    have hc : c = 0 := hnil rfl
    subst hc
    have hx0 : xs = [] := List.eq_nil_of_length_eq_zero hl
    subst hx0
    refine wpList_append_own_none hgd s x 22 ho base 3 i0 1 Tryd.underlying22 hi v 0 [] hs hown hx ?_
    exact h v w hown ⟨rfl, rfl, rfl, Nat.le_refl _, fun _ _ _ => rfl⟩
  | some ad =>
    refine wpList_append_own _ hgd s x 22 ho base 3 i0 (.int .i64 0) 1 8 Tryd.underlying22 hi hz0 hz1 hz2 rfl (by decide) v 0 [] hs hown ad n c (lI xs) hx (by rw [lI_length]; omega) ?_ (lI_one xs) (by unfold maxLen; omega) (by omega) hbase ?_
    · intro j u hj
      have hjl : j < xs.length := by have := (List.getElem?_eq_some_iff.1 hj).1; rwa [lI_length] at this
      rcases hI with h0 | ⟨b, off, e, hc⟩
      · omega
      · cases e
        rw [lI_get hjl] at hj
        cases hj
        have ha : Addr.add ⟨b, off, none⟩ j = ⟨b, off + j, none⟩ := by simp [Addr.add]
        rw [ha]
        exact hc j hjl
    · intro v' w' hown' hg _
      rw [Nat.zero_add, List.nil_append] at hown'
      exact h v' w' hown' hg
end Go.Proofs.YtbdhceolchhnjaaDoor
