/- Layer 4: AmbushWins returns true, and changes nothing. -/
import Derived.Test.YtbdhceolchhnjaaDoorKe
import Derived.Laws.AppendOwnNone
namespace Go.Proofs.YtbdhceolchhnjaaDoor
open Go Go.RowKit

theorem lI_oneK (xs : List Int) : ∀ u ∈ lI xs, u.oneCell' = true := fun u hu => by
  obtain ⟨x, _, rfl⟩ := List.mem_map.1 hu
  rfl
/-- 'append([]int{}, xs...)': a copy of the call's own, nil or not. -/
theorem wpList_copyK {ops : Array Oper} {rest : List Oper} {o : Oper} {a : Act} {Q : Exit → Act → World → Prop} {w : World} (hgd : o.guard = none) (s x : Operand)
    (ho : o.op = .call { callee := .builtin .append, args := #[s, x], argTypes := #[22, 22] })
    (base : Nat) (v : Value) (hs : a.eval s = v) (hown : w.ownsRow base 3 1 v 0 []) (ad : Option Addr) (n c : Nat) (xs : List Int) (hx : a.eval x = .slice ad n c)
    (hI : Ints w ad xs) (hl : xs.length = n) (hnil : ad = none → c = 0) (hn : n ≤ 1000) (hbase : base ≤ w.heap.size)
    (h : ∀ v' w', w'.ownsRow base 3 1 v' n (lI xs) → w.grownBy w' v.ownBlock → wpList Tryd.prog ops Q rest (a.put o.dst v') w') : wpList Tryd.prog ops Q (o :: rest) a w := by
  obtain ⟨i0, hi, hz0, hz1, hz2⟩ := info_parts infoInt'
  cases ad with
  | none =>
    have hn0 : n = 0 := by
      rcases hI with h0 | ⟨b, off, e, _⟩
      · omega
      · cases e
    subst hn0
    have hc : c = 0 := hnil rfl
    subst hc
    have hx0 : xs = [] := List.eq_nil_of_length_eq_zero hl
    subst hx0
    refine wpList_append_own_none hgd s x 22 ho base 3 i0 1 Tryd.underlying22 hi v 0 [] hs hown hx ?_
    exact h v w hown ⟨rfl, rfl, rfl, Nat.le_refl _, fun _ _ _ => rfl⟩
  | some ad =>
    refine wpList_append_own _ hgd s x 22 ho base 3 i0 (.int .i64 0) 1 8 Tryd.underlying22 hi hz0 hz1 hz2 rfl (by decide) v 0 [] hs hown ad n c (lI xs) hx (by rw [lI_length]; omega) ?_ (lI_oneK xs) (by unfold maxLen; omega) (by omega) hbase ?_
    · intro j u hj
      have hjl : j < xs.length := by have := (List.getElem?_eq_some_iff.1 hj).1; rwa [lI_length] at this
      rcases hI with h0 | ⟨b, off, e, hc⟩
      · omega
      · cases e
        rw [lI_get hjl] at hj
        cases hj
        have ha : Addr.add ⟨b, off, none⟩ j = ⟨b, off + j, none⟩ := by simp [Addr.add]
        rw [ha]
        exact hc j hjl
    · intro v' w' hown' hg _
      rw [Nat.zero_add, List.nil_append] at hown'
      exact h v' w' hown' hg
theorem after_copyK {w w6 w7 : World} {o : Obj} (B2 : Below w.heap.size w (w6.alloc o)) (hs : w.heap.size ≤ w6.heap.size) (hg : (w6.alloc o).grownBy w7 (Value.slice (some ⟨w6.heap.size, 0, none⟩) 0 0).ownBlock) : Below w.heap.size w w7 ∧ w.heap.size ≤ w7.heap.size := by
  have B3 := B2.grown hg B2.size (fun q hq => by
    have : w6.heap.size = q := by simpa [Value.ownBlock] using hq
    omega)
  exact ⟨B3, B3.size⟩
set_option maxRecDepth 100000 in
set_option maxHeartbeats 8000000 in
theorem winsLaw_any (x : Int) (a : Option Addr) (n c : Nat) (R : List Int) (s t : ByteArray) (w : World) (h : Ints w a R) (hn : R.length = n) (_hnc : n ≤ c) (hnil : a = none → c = 0) (hT : Tab w) :
    Calls Tryd.prog 3 #[.int .i64 x, .slice a n c, .string s, .string t] w (Ret (.bool true) w) := by
  have hAl := Lib.hid (fun W hW => alive_any W hW)
  have hFw := Lib.hid (fun W => few_any n c a s t W)
  replace hT := Lib.hid hT
  cases hf : decide (n ≤ 40) && decide (s.size ≤ 40) && decide (t.size ≤ 40)
  · rw [hf] at hFw
    clear hn
    go_enter Tryd.func3, Tryd.ntmps3
    go_wp2_with (first
      | (go_at_call 10; refine (hFw.out _).mono ?_; rintro e w1 ⟨rfl, rfl⟩)
      | (go_at_call 11; refine (hAl.out _ hT.out).mono ?_; rintro e w1 ⟨rfl, hb1⟩))
    go_ret
    exact Ret.mk rfl hb1
  · rw [hf] at hFw
    have hn40 : n ≤ 40 := by simp at hf; omega
    have hI := Lib.hid h
    have hn' := Lib.hid hn
    have hnil' := Lib.hid hnil
    have PW := Lib.hid (fun a' c' W hW hTW => Winner_any x a' n c' R s t W hW hn hTW)
    have RW' := Lib.hid (fun W hW => refWinner_any x a n c R s t W hW hn)
    have PM := Lib.hid (fun a' c' W hW hTW => Move_any x a' n c' R s t W hW hn hTW)
    have RM := Lib.hid (fun W hW => refMove_any x a n c R s t W hW hn)
    have SA := Lib.hid (fun a' c' W hW hW' => same_any a' a n n c' c R R W hW hW' hn hn (by omega) (by omega))
    rw [decide_eq_true (rfl : R = R)] at SA
    generalize winS x R s t = S at *
    generalize tE x R s t = e1 at *
    generalize mvI x R s t = i2 at *
    generalize mvE x R s t = e2 at *
    have hSS : (S.toList == S.toList) = true := by simp
    clear hf h hn hnil
    have hs6 : w.heap.size ≤ w.heap.size := Nat.le_refl _
    have B2 := (Below.refl w.heap.size w).alloc hs6 (.cells #[] 3)
    have hown0 : (w.alloc (.cells #[] 3)).ownsRow w.heap.size 3 1 (.slice (some ⟨w.heap.size, 0, none⟩) 0 0) 0 [] := World.ownsRow_made w #[] 0 hs6 (by decide) rfl
    go_enter Tryd.func3, Tryd.ntmps3
    go_wp2_with (first
      | (go_at_call 10; refine (hFw.out _).mono ?_; rintro e w1 ⟨rfl, rfl⟩)
      | (at_builtin; refine wpList_copyK rfl _ _ rfl w.heap.size _ rfl hown0 a n c R rfl (hI.out.next B2) hn'.out hnil'.out (by omega) B2.size ?_; intro v7 w7 ho7 hg7; obtain ⟨B3, hs7⟩ := after_copyK B2 hs6 hg7; obtain ⟨a7, c7, rfl, _, hI7⟩ := own_intsA ho7 hn'.out))
    clear ho7 hown0 B2 hg7 hs6 hFw
    refine (PW.out a7 c7 _ hI7 (hT.out.next B3)).mono ?_
    rintro e w8 ⟨rfl, hb8⟩
    dsimp only
    have B8 := nextB B3 hb8
    have hI8 := hI7.next hb8
    clear hb8 B3 hI7 PW
    go_wp2_with fail
    refine (RW'.out _ (hI.out.next B8)).mono ?_
    rintro e w9 ⟨rfl, hb9⟩
    dsimp only
    have B9 := nextB B8 hb9
    have hI9 := hI8.next hb9
    clear hb9 B8 hI8 RW'
    go_wp2_with fail
    refine (PM.out a7 c7 _ hI9 (hT.out.next B9)).mono ?_
    rintro e w10 ⟨rfl, hb10⟩
    dsimp only
    have B10 := nextB B9 hb10
    have hI10 := hI9.next hb10
    clear hb10 B9 hI9 PM
    go_wp2_with fail
    refine (RM.out _ (hI.out.next B10)).mono ?_
    rintro e w11 ⟨rfl, hb11⟩
    dsimp only
    have B11 := nextB B10 hb11
    have hI11 := hI10.next hb11
    clear hb11 B10 hI10 RM
    go_wp2_with fail
    refine (SA.out a7 c7 _ hI11 (hI.out.next B11)).mono ?_
    rintro e w12 ⟨rfl, hb12⟩
    dsimp only
    have B12 := nextB B11 hb12
    clear hb12 B11 hI11 SA
    go_wp2_with (go_at_call 11; refine (hAl.out _ (hT.out.next B12)).mono ?_; rintro e w13 ⟨rfl, hb13⟩)
    go_ret
    exact Ret.mk rfl (nextB B12 hb13)
end Go.Proofs.YtbdhceolchhnjaaDoor
