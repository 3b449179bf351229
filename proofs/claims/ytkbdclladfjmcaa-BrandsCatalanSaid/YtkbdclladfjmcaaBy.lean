/- Layer 2: slices.SortFunc of at most twelve pairs, handed the order of lines. Layer 2: slices.Grow of nil; slices.Concat of lists of pairs. Layer 2: slices.Concat of lists of pairs. Layer 2: pairs put in order. Layer 2: a list of numbers becomes lines, ear by ear: in plain words; slices.Max. Layer 2: a list of numbers becomes lines, ear by ear: the program's walk. -/
import Derived.Test.YtkbdclladfjmcaaBs
import Derived.Laws.Shifts
import Derived.Lib.AppendZeros
import Derived.Laws.AppendOwnNone
import Derived.Test.YtkbdclladfjmcaaKb
namespace Go.Proofs.Ytkbdclladfjmcaa
section
open Go Go.RowKit

set_option maxRecDepth 100000 in
set_option maxHeartbeats 1600000 in
theorem len64_any (n : Nat) (w : World) (h : n ≤ 12) : Calls Try.prog 56 #[.int .u64 n] w fun e w' => ∃ r : Int, e = .returned (.int .i64 r) ∧ w = w' := by
  have hn : n = 0 ∨ n = 1 ∨ n = 2 ∨ n = 3 ∨ n = 4 ∨ n = 5 ∨ n = 6 ∨ n = 7 ∨ n = 8 ∨ n = 9 ∨ n = 10 ∨ n = 11 ∨ n = 12 := by omega
  rcases hn with rfl | rfl | rfl | rfl | rfl | rfl | rfl | rfl | rfl | rfl | rfl | rfl | rfl
  all_goals
    go_enter Try.func56, Try.ntmps56
    go_wp2
    go_ret
    exact ⟨_, rfl, rfl⟩
set_option maxRecDepth 100000 in
theorem len_any (n : Nat) (w : World) (h : n ≤ 12) : Calls Try.prog 41 #[.int .u64 n] w fun e w' => ∃ r : Int, e = .returned (.int .i64 r) ∧ w = w' := by
  have K := fun W => len64_any n W h
  go_enter Try.func41, Try.ntmps41
  go_wp2_with (go_at_call 56; refine (K _).mono ?_; rintro e w1 ⟨r, rfl, rfl⟩)
  go_ret
  exact ⟨_, rfl, rfl⟩
/-- A list of pairs was put in order, in place. -/
def Sorts (base n : Nat) (v : Value) (L : List (Int × Int)) (w : World) (e : Ending) (w' : World) : Prop :=
  e = .returned (.tuple #[]) ∧ ∃ M, M.Perm L ∧ SortedP M ∧ w'.ownsRow base 29 2 v n (cP M) ∧ Below base w w'
set_option maxRecDepth 100000 in
set_option maxHeartbeats 1600000 in
theorem insertion_none (a : Option Addr) (cap : Nat) (w : World) :
    Calls Try.prog 47 #[.slice a (0 : Nat) cap, .int .i64 0, .int .i64 (0 : Nat), cmpV] w (Only (.tuple #[]) w) := by
  go_enter Try.func47, Try.ntmps47
  go_wp2
  go_loop [8] (fun i => i = .int .i64 1) (fun i => 0)
  case atStart => rfl
  case round =>
    subst hrel
    go_wp2
    go_end0
    exact Only.mk rfl
theorem insertion_sorts (base : Nat) (a : Option Addr) (n cap : Nat) (L : List (Int × Int)) (w : World) (hl : L.length = n) (h60 : n ≤ 1000)
    (hown : w.ownsRow base 29 2 (.slice a n cap) n (cP L)) :
    Calls Try.prog 47 #[.slice a n cap, .int .i64 0, .int .i64 n, cmpV] w (Sorts base n (.slice a n cap) L w) := by
  by_cases h0 : n = 0
  · subst h0
    refine (insertion_none a cap w).mono ?_
    rintro e w' ⟨rfl, rfl⟩
    exact ⟨rfl, L, List.Perm.refl _, fun i j h1 h2 => by omega, hown, Below.refl _ _⟩
  · rcases hown.2 with ⟨h', _⟩ | ⟨g', cap', cur, h', hb, _⟩
    · simp at h'; omega
    · simp only [Value.slice.injEq, true_and] at h'
      obtain ⟨rfl, rfl⟩ := h'
      exact insertion_any base g' n cap L w hl h60 hb hown
set_option maxRecDepth 100000 in
set_option maxHeartbeats 1600000 in
theorem pdq_any (base : Nat) (a : Option Addr) (n cap : Nat) (L : List (Int × Int)) (lim : Int) (w : World) (hl : L.length = n) (h12 : n ≤ 12)
    (hown : w.ownsRow base 29 2 (.slice a n cap) n (cP L)) :
    Calls Try.prog 40 #[.slice a n cap, .int .i64 0, .int .i64 n, .int .i64 lim, cmpV] w (Sorts base n (.slice a n cap) L w) := by
  have K := Lib.hid (insertion_sorts base a n cap L w hl (by omega) hown)
  clear hown hl
  go_enter Try.func40, Try.ntmps40
  go_wp2
  refine wp_loop_rounds 1 ?_
  rw [rounds_succ]
  go_wp2_with (go_at_call 47; refine K.out.mono ?_; rintro e w1 ⟨rfl, hs⟩; replace hs := Lib.hid hs)
  go_end0
  exact ⟨rfl, hs.out⟩
set_option maxRecDepth 100000 in
set_option maxHeartbeats 1600000 in
theorem sortFunc_any (base : Nat) (a : Option Addr) (n cap : Nat) (L : List (Int × Int)) (w : World) (hl : L.length = n) (h12 : n ≤ 12)
    (hown : w.ownsRow base 29 2 (.slice a n cap) n (cP L)) :
    Calls Try.prog 28 #[.slice a n cap, cmpV] w (Sorts base n (.slice a n cap) L w) := by
  have K := Lib.hid (fun lim => pdq_any base a n cap L lim w hl h12 hown)
  have N := fun W => len_any n W h12
  clear hown hl
  go_enter Try.func28, Try.ntmps28
  go_wp2_with (first
    | (go_at_call 41; refine (N _).mono ?_; rintro e w1 ⟨r, rfl, rfl⟩)
    | (go_at_call 40; refine (K.out _).mono ?_; rintro e w1 ⟨rfl, hs⟩; replace hs := Lib.hid hs))
  go_end0
  exact ⟨rfl, hs.out⟩
end
section
open Go Go.RowKit

theorem infoPair : (Try.prog.info? 29).map (fun i => (i.zero, i.size, i.bytes)) = some (some (.agg #[.int .i64 0, .int .i64 0]), 2, 16) := by kernel_rfl
set_option maxRecDepth 100000 in
set_option maxHeartbeats 1600000 in
theorem grow_zero (w : World) : Calls Try.prog 39 #[.slice none 0 0, .int .i64 0] w (Only (.slice none 0 0) w) := by
  go_enter Try.func39, Try.ntmps39
  go_wp2
  go_ret
  exact Only.mk rfl
set_option maxRecDepth 100000 in
set_option maxHeartbeats 1600000 in
theorem grow_any (k : Nat) (w : World) (h0 : 0 < k) (h60 : k ≤ 1000) :
    Calls Try.prog 39 #[.slice none 0 0, .int .i64 k] w fun e w' => ∃ g cap, e = .returned (.slice (some ⟨g, 0, none⟩) (0 : Nat) cap) ∧
      w'.ownsRow w.heap.size 29 2 (.slice (some ⟨g, 0, none⟩) (0 : Nat) cap) 0 [] ∧ Below w.heap.size w w' := by
  obtain ⟨i0, hi, hz0, hz1, hz2⟩ := info_parts infoPair
  have H := fun ty => Lib.run_append_nil_zeros (P := Try.prog) w 27 3 ty 29 i0 (.agg #[.int .i64 0, .int .i64 0]) .i64 .i64 Try.underlying27 Try.underlying3 hi hz0 k h0 (by rw [hz1]; omega) (by omega) (by rw [hz2]; omega)
  have hge := grownCap_ge w k 0 29
  have hle := grownCap_le_maxLen w k 0 29 (by unfold maxLen; omega)
  have hown : Hid ((w.drew.alloc (.cells (Builtin.zeroCells (Value.agg #[.int .i64 0, .int .i64 0]).cells k ++ Builtin.zeroCells (Value.agg #[.int .i64 0, .int .i64 0]).cells (grownCap w k 0 29 - k)) 29)).ownsRow w.heap.size 29 2 (.slice (some ⟨w.heap.size, 0, none⟩) (0 : Nat) (grownCap w k 0 29)) 0 []) := by
    refine World.ownsRow_made w.drew _ _ (Nat.le_refl _) hle ?_
    rw [Array.size_append, size_zeroCells, size_zeroCells]
    show k * 2 + (grownCap w k 0 29 - k) * 2 = _
    omega
  have hB : Hid (Below w.heap.size w (w.drew.alloc (.cells (Builtin.zeroCells (Value.agg #[.int .i64 0, .int .i64 0]).cells k ++ Builtin.zeroCells (Value.agg #[.int .i64 0, .int .i64 0]).cells (grownCap w k 0 29 - k)) 29))) := ((Below.refl _ w).drew).alloc (Nat.le_refl _) _
  generalize (w.drew.alloc (.cells (Builtin.zeroCells (Value.agg #[.int .i64 0, .int .i64 0]).cells k ++ Builtin.zeroCells (Value.agg #[.int .i64 0, .int .i64 0]).cells (grownCap w k 0 29 - k)) 29)) = W at *
  generalize grownCap w k 0 29 = cap at *
  replace H := Lib.hid H
  clear hi hz0 hz1 hz2 hle
  go_enter Try.func39, Try.ntmps39
  go_wp2_with (at_builtin; refine Lib.wpList_append_run _ rfl _ _ _ _ rfl _ _ rfl rfl _ _ (H.out _) ?_)
  go_ret
  exact ⟨_, cap, rfl, hown.out, hB.out⟩
end
section
open Go Go.RowKit

/-- A slice of pairs, and what it holds. -/
structure Part where
  a : Option Addr
  n : Nat
  c : Nat
  L : List (Int × Int)
def pat (ps : List Part) (i : Nat) : Part := ps.getD i ⟨none, 0, 0, []⟩
/-- All pairs of the parts. -/
def allP (ps : List Part) : List (Int × Int) := ps.flatMap Part.L
/-- The part's pairs lie in memory. -/
def PartOk (w : World) (p : Part) : Prop := Prs w p.a p.L ∧ p.L.length = p.n ∧ (p.a = none → p.c = 0)
theorem PartOk.next {w w' : World} {p : Part} (h : PartOk w p) (hb : Below w.heap.size w w') : PartOk w' p := ⟨h.1.next hb, h.2⟩
theorem allP_succ (ps : List Part) (k : Nat) (hk : k < ps.length) : allP (ps.take (k + 1)) = allP (ps.take k) ++ (pat ps k).L := by
  rw [List.take_succ_eq_append_getElem hk, allP, List.flatMap_append]
  simp [allP, pat, hk]
theorem allP_le (ps : List Part) (k : Nat) : (allP (ps.take k)).length ≤ (allP ps).length := by
  have e : allP ps = allP (ps.take k) ++ allP (ps.drop k) := by
    rw [allP, allP, allP, ← List.flatMap_append, List.take_append_drop]
  rw [e, List.length_append]
  omega
theorem prs_cells {w : World} {b off : Nat} {L : List (Int × Int)} (hc : ∀ i, i < L.length → w.cell? ⟨b, off + i * 2, none⟩ = some (.int .i64 (pth L i).1) ∧ w.cell? ⟨b, off + i * 2 + 1, none⟩ = some (.int .i64 (pth L i).2)) :
    ∀ j u, (cP L)[j]? = some u → w.cell? (Addr.add ⟨b, off, none⟩ j) = some u := by
  intro j u hj
  have hl := cP_length L
  have hjl : j < L.length * 2 := by have := (List.getElem?_eq_some_iff.1 hj).1; omega
  obtain ⟨h1, h2⟩ := cP_at L (j / 2) (by omega)
  obtain ⟨e1, e2⟩ := hc (j / 2) (by omega)
  rw [show Addr.add ⟨b, off, none⟩ j = ⟨b, off + j, none⟩ by simp [Addr.add]]
  by_cases hp : j % 2 = 0
  · rw [show j / 2 * 2 = j by omega, hj] at h1
    rw [show off + j = off + j / 2 * 2 by omega, e1, h1]
  · rw [show j / 2 * 2 + 1 = j by omega, hj] at h2
    rw [show off + j = off + j / 2 * 2 + 1 by omega, e2, h2]

theorem part_src {w : World} {p : Part} {ad : Addr} (h : PartOk w p) (ha : p.a = some ad) : ∀ j u, (cP p.L)[j]? = some u → w.cell? (ad.add j) = some u := by
  intro j u hj
  rcases h.1 with h0 | ⟨b, off, e, hc⟩
  · rw [List.eq_nil_of_length_eq_zero h0] at hj
    simp [cP] at hj
  · rw [ha] at e
    cases e
    exact prs_cells hc j u hj
theorem part_nil {w : World} {p : Part} (h : PartOk w p) (ha : p.a = none) : p.n = 0 ∧ p.c = 0 ∧ p.L = [] := by
  refine ⟨?_, h.2.2 ha, ?_⟩
  · rcases h.1 with h0 | ⟨b, off, e, hc⟩
    · rw [← h.2.1, h0]
    · rw [ha] at e; cases e
  · rcases h.1 with h0 | ⟨b, off, e, hc⟩
    · exact List.eq_nil_of_length_eq_zero h0
    · rw [ha] at e; cases e
theorem grow_both (k : Nat) (w : World) (h60 : k ≤ 1000) :
    Calls Try.prog 39 #[.slice none 0 0, .int .i64 k] w fun e w' => ∃ v, e = .returned v ∧ w'.ownsRow w.heap.size 29 2 v 0 [] ∧ Below w.heap.size w w' := by
  by_cases h0 : k = 0
  · subst h0
    refine (grow_zero w).mono ?_
    rintro e w' ⟨rfl, rfl⟩
    exact ⟨_, rfl, World.ownsRow_nil _ _ _ _, Below.refl _ _⟩
  · refine (grow_any k w (by omega) h60).mono ?_
    rintro e w' ⟨g, cap, rfl, h1, h2⟩
    exact ⟨_, rfl, h1, h2⟩

set_option maxRecDepth 100000 in
set_option maxHeartbeats 1600000 in
theorem concat_any (b n c : Nat) (ps : List Part) (w : World) (hn : ps.length = n) (h60 : n ≤ 1000) (hsum : (allP ps).length ≤ 1000)
    (hc : ∀ i, i < n → w.cell? ⟨b, i, none⟩ = some (.slice (pat ps i).a (pat ps i).n (pat ps i).c)) (hok : ∀ i, i < n → PartOk w (pat ps i)) :
    Calls Try.prog 27 #[.slice (some ⟨b, 0, none⟩) n c] w fun e w' => ∃ v, e = .returned v ∧
      w'.ownsRow w.heap.size 29 2 v (allP ps).length (cP (allP ps)) ∧ Below w.heap.size w w' := by
  obtain ⟨i0, hi, hz0, hz1, hz2⟩ := info_parts infoPair
  have G0 := Lib.hid hi
  have G1 := Lib.hid hz0
  have G2 := Lib.hid hz1
  have G3 := Lib.hid hz2
  clear hi hz0 hz1 hz2
  have hsucc := Lib.hid (fun k (hk : k < n) => allP_succ ps k (by omega))
  have hle := Lib.hid (fun k => allP_le ps k)
  have hall : Hid (ps.take n = ps) := List.take_of_length_le (by omega)
  replace hc := Lib.hid hc
  replace hok := Lib.hid hok
  clear hn
  go_enter Try.func27, Try.ntmps27
  go_wp2
  go_loop [3, 11] (fun s i => ∃ k : Nat, k ≤ n ∧ i = .int .i64 k ∧ s = .int .i64 ((allP (ps.take k)).length : Nat)) (fun _ i => n - (intOf i).toNat)
  case atStart => exact ⟨0, by omega, rfl, rfl⟩
  case round =>
    obtain ⟨k, hk, rfl, rfl⟩ := hrel
    by_cases hlt : k < n
    · have x0 := hc.out k hlt
      have hi0 : (k : Int) < (n : Int) := by omega
      have e1 := hle.out (k + 1)
      rw [hsucc.out k hlt, List.length_append, (hok.out k hlt).2.1] at e1
      have e2 : Hid ((allP (ps.take (k + 1))).length = (allP (ps.take k)).length + (pat ps k).n) := by rw [hsucc.out k hlt, List.length_append, (hok.out k hlt).2.1]; exact Lib.hid rfl
      generalize (allP (ps.take k)).length = s at *
      generalize pat ps k = p at *
      go_wp2
      go_round
      case rel => exact ⟨k + 1, by omega, by go_num, by rw [e2.out]; go_num⟩
      case measure => simp [intOf]; omega
    · obtain rfl : k = n := by omega
      rw [hall.out]
      have hl0 := hle.out
      have hlk := Lib.hid hl0
      clear hl0
      go_wp2_with (go_at_call 39; refine (grow_both _ _ hsum).mono ?_; rintro e w1 ⟨v, rfl, hown, B0⟩)
      go_loopw [6, 27] (fun v i wr => ∃ q : Nat, q ≤ k ∧ i = .int .i64 q ∧ wr.ownsRow w.heap.size 29 2 v (allP (ps.take q)).length (cP (allP (ps.take q))) ∧ Below w.heap.size w wr) (fun _ i _ => k - (intOf i).toNat)
      case atStart => exact ⟨0, by omega, rfl, hown, B0⟩
      case round =>
        clear hown B0
        obtain ⟨q, hq, rfl, hown, B0⟩ := hrel
        by_cases hlt : q < k
        · have x0 := cellB B0 (hc.out q hlt)
          have hi0 : (q : Int) < (k : Int) := by omega
          have e1 := hlk.out (q + 1)
          have hp := Lib.hid ((hok.out q hlt).next B0)
          have es := Lib.hid (hsucc.out q hlt)
          rw [es.out, List.length_append, hp.out.2.1] at e1
          have hL := Lib.hid hp.out.2.1
          generalize allP (ps.take q) = S at *
          generalize pat ps q = p at *
          obtain ⟨pa, pn, pc, pL⟩ := p
          cases pa with
          | none =>
            obtain ⟨rfl, rfl, rfl⟩ := part_nil hp.out rfl
            go_wp2_with (at_builtin; refine wpList_append_own_none rfl _ _ 27 rfl w.heap.size 29 i0 2 Try.underlying27 G0.out _ _ _ rfl hown rfl ?_)
            go_roundw
            case rel => exact ⟨q + 1, by omega, by go_num, by rw [es.out, List.append_nil]; exact hown, B0⟩
            case measure => simp [intOf]; omega
          | some ad =>
            have src := Lib.hid (part_src hp.out rfl)
            have hL2 := Lib.hid (show (cP pL).length = pn * 2 by rw [cP_length, hL.out])
            have hone := Lib.hid (cP_one pL)
            simp only [] at e1
            go_wp2_with (at_builtin; refine wpList_append_own _ rfl _ _ 27 rfl w.heap.size 29 i0 (.agg #[.int .i64 0, .int .i64 0]) 2 16 Try.underlying27 G0.out G1.out G2.out G3.out rfl (by decide) _ _ _ rfl hown ad pn pc (cP pL) rfl hL2.out src.out hone.out (by unfold maxLen; omega) (by omega) B0.size ?_; intro v' w2 hown2 hgrow _)
            have B2 := B0.grown hgrow B0.size (fun k hk => (hown.lt k hk).1)
            go_roundw
            case rel => exact ⟨q + 1, by omega, by go_num, by rw [es.out, List.length_append, cP_append]; simp only []; rw [hL.out]; exact hown2, B2⟩
            case measure => simp [intOf]; omega
        · obtain rfl : q = k := by omega
          rw [hall.out] at hown
          go_wp2
          go_ret
          exact ⟨_, rfl, hown, B0⟩
end
section
open Go Go.RowKit

/-- A pair put in its place. -/
def putL (L : List (Int × Int)) (x : Int × Int) : List (Int × Int) := L.takeWhile (fun y => decide (LexP y x)) ++ x :: L.dropWhile (fun y => decide (LexP y x))
def sortL (L : List (Int × Int)) : List (Int × Int) := L.foldl putL []
theorem putL_perm (L : List (Int × Int)) (x : Int × Int) : (putL L x).Perm (x :: L) := by
  unfold putL
  refine List.perm_middle.trans ?_
  rw [List.takeWhile_append_dropWhile]
theorem mem_takeW {L : List (Int × Int)} {x y : Int × Int} (h : y ∈ L.takeWhile (fun y => decide (LexP y x))) : LexP y x := by
  induction L with
  | nil => simp at h
  | cons z L ih =>
    rw [List.takeWhile_cons] at h
    split at h
    · rename_i hz
      rcases List.mem_cons.1 h with rfl | h
      · exact of_decide_eq_true hz
      · exact ih h
    · simp at h
theorem putL_sorted {L : List (Int × Int)} (h : L.Pairwise LeP) (x : Int × Int) : (putL L x).Pairwise LeP := by
  unfold putL
  rw [List.pairwise_append]
  have hd : ∀ y ∈ L.dropWhile (fun y => decide (LexP y x)), LeP x y := by
    induction L with
    | nil => intro y hy; simp at hy
    | cons z L ih =>
      intro y hy
      rw [List.dropWhile_cons] at hy
      rw [List.pairwise_cons] at h
      split at hy
      · exact ih h.2 y hy
      · rename_i hz
        have hxz : LeP x z := by simpa [LeP] using hz
        rcases List.mem_cons.1 hy with rfl | hy
        · exact hxz
        · exact hxz.trans (h.1 y hy)
  refine ⟨h.sublist (List.takeWhile_sublist _), ?_, ?_⟩
  · rw [List.pairwise_cons]
    exact ⟨hd, h.sublist (List.dropWhile_sublist _)⟩
  · intro a ha b hb
    have h1 := (mem_takeW ha).le
    rcases List.mem_cons.1 hb with rfl | hb
    · exact h1
    · exact h1.trans (hd b hb)
theorem sort_go (L : List (Int × Int)) : ∀ A : List (Int × Int), A.Pairwise LeP → (L.foldl putL A).Pairwise LeP ∧ (L.foldl putL A).Perm (A ++ L) := by
  induction L with
  | nil => intro A h; exact ⟨h, by simp⟩
  | cons x L ih =>
    intro A h
    obtain ⟨h1, h2⟩ := ih (putL A x) (putL_sorted h x)
    refine ⟨h1, h2.trans ?_⟩
    refine ((putL_perm A x).append_right L).trans ?_
    rw [List.cons_append]
    exact List.perm_middle.symm
theorem sortL_sorted (L : List (Int × Int)) : SortedP (sortL L) := sortedP_pair.2 (sort_go L [] List.Pairwise.nil).1
theorem sortL_perm (L : List (Int × Int)) : (sortL L).Perm L := by have h := (sort_go L [] List.Pairwise.nil).2; rw [List.nil_append] at h; exact h
theorem sortL_one {L M : List (Int × Int)} (h : M.Perm L) (hM : SortedP M) : M = sortL L := sorted_one hM (sortL_sorted L) (h.trans (sortL_perm L).symm)
theorem sortL_length (L : List (Int × Int)) : (sortL L).length = L.length := (sortL_perm L).length_eq
set_option maxRecDepth 100000 in
set_option maxHeartbeats 1600000 in
theorem sorted_any (b n c : Nat) (ps : List Part) (w : World) (hn : ps.length = n) (h60 : n ≤ 1000) (hsum : (allP ps).length ≤ 12)
    (hc : ∀ i, i < n → w.cell? ⟨b, i, none⟩ = some (.slice (pat ps i).a (pat ps i).n (pat ps i).c)) (hok : ∀ i, i < n → PartOk w (pat ps i)) :
    Calls Try.prog 15 #[cmpV, .slice (some ⟨b, 0, none⟩) n c] w fun e w' => ∃ a cap, e = .returned (.slice a (allP ps).length cap) ∧
      w'.ownsRow w.heap.size 29 2 (.slice a (allP ps).length cap) (allP ps).length (cP (sortL (allP ps))) ∧ Prs w' a (sortL (allP ps)) ∧ (allP ps).length ≤ cap ∧ Below w.heap.size w w' := by
  have K := Lib.hid (concat_any b n c ps w hn h60 (by omega) hc hok)
  have S := Lib.hid (fun base a cap W h => sortFunc_any base a (allP ps).length cap (allP ps) W rfl hsum h)
  clear hc hok hn
  go_enter Try.func15, Try.ntmps15
  go_wp2_with (first
    | (go_at_call 27; refine K.out.mono ?_; rintro e w1 ⟨v, rfl, hown, B0⟩; have hown' := Lib.hid hown; obtain ⟨a1, c1, rfl, hc1, hp1⟩ := own_prs hown)
    | (go_at_call 28; refine (S.out _ _ _ _ hown'.out).mono ?_; rintro e w2 ⟨rfl, M, hM1, hM2, hown2, hb2⟩; have hM := Lib.hid (sortL_one hM1 hM2)))
  go_ret
  rw [hM.out] at hown2
  have hb3 := B0.trans hb2
  refine ⟨a1, c1, rfl, hown2, ?_, hc1, hb3⟩
  have hl := sortL_length (allP ps)
  rw [← hl] at hown2
  obtain ⟨a2, c2, e, _, hp⟩ := own_prs hown2
  cases e
  exact hp
end
section
open Go Go.RowKit

/-- The greatest number. -/
def maxTo (xs : List Int) : Nat → Int
  | 0 => nth xs 0
  | k + 1 => max (maxTo xs k) (nth xs (k + 1))
def maxL (xs : List Int) : Int := maxTo xs (xs.length - 1)
theorem maxTo_one {xs : List Int} {n : Nat} (h : ∀ i, i ≤ n → 1 ≤ nth xs i) : maxTo xs n = 1 ↔ ∀ i, i ≤ n → nth xs i = 1 := by
  have lo : ∀ k, k ≤ n → 1 ≤ maxTo xs k := by
    intro k
    induction k with
    | zero => intro _; exact h 0 (by omega)
    | succ k ih => intro hk; rw [maxTo]; have := ih (by omega); omega
  have : ∀ k, k ≤ n → (maxTo xs k = 1 ↔ ∀ i, i ≤ k → nth xs i = 1) := by
    intro k
    induction k with
    | zero => intro _; exact ⟨fun h i hi => by obtain rfl : i = 0 := by omega
                                               exact h, fun h => h 0 (by omega)⟩
    | succ k ih =>
      intro hk
      have e := ih (by omega)
      have l1 := lo k (by omega)
      have l2 := h (k + 1) hk
      rw [maxTo]
      constructor
      · intro hm i hi
        by_cases hik : i = k + 1
        · subst hik; omega
        · exact e.1 (by omega) i (by omega)
      · intro ha
        have := e.2 (fun i hi => ha i (by omega))
        have := ha (k + 1) (Nat.le_refl _)
        omega
  exact this n (Nat.le_refl n)
set_option maxRecDepth 100000 in
set_option maxHeartbeats 1600000 in
theorem max_any (b off n c : Nat) (xs : List Int) (w : World) (hl : xs.length = n) (h1 : 1 ≤ n) (h60 : n ≤ 1000)
    (hc : ∀ i, i < n → w.cell? ⟨b, off + i, none⟩ = some (.int .i64 (nth xs i))) :
    Calls Try.prog 35 #[.slice (some ⟨b, off, none⟩) n c] w (Only (.int .i64 (maxL xs)) w) := by
  have hm : Hid (maxL xs = maxTo xs (n - 1)) := by subst hl; exact Lib.hid rfl
  replace hc := Lib.hid hc
  have x0 : w.cell? ⟨b, off, none⟩ = some (.int .i64 (nth xs 0)) := by simpa using hc.out 0 (by omega)
  clear hl
  have hn0 : (0 : Nat) < n := by omega
  go_enter Try.func35, Try.ntmps35
  go_wp2
  clear x0
  go_loop [3, 4] (fun m i => ∃ k : Nat, 1 ≤ k ∧ k ≤ n ∧ i = .int .i64 k ∧ m = .int .i64 (maxTo xs (k - 1))) (fun _ i => n - (intOf i).toNat)
  case atStart => exact ⟨1, by omega, by omega, rfl, rfl⟩
  case round =>
    obtain ⟨k, hk1, hk, rfl, rfl⟩ := hrel
    by_cases hlt : k < n
    · have xk := hc.out k hlt
      have hi0 : (k : Int) < (n : Int) := by omega
      have es : Hid (maxTo xs k = max (maxTo xs (k - 1)) (nth xs k)) := by
        obtain ⟨q, rfl⟩ : ∃ q, k = q + 1 := ⟨k - 1, by omega⟩
        exact Lib.hid rfl
      generalize maxTo xs (k - 1) = u at *
      generalize nth xs k = v at *
      rcases Int.lt_trichotomy u v with h | rfl | h
      all_goals
        go_wp2
        go_round
        case rel => exact ⟨k + 1, by omega, by omega, by go_num, by rw [Nat.add_sub_cancel, es.out]; simp only [Value.int.injEq, true_and]; omega⟩
        case measure => simp [intOf]; omega
    · obtain rfl : k = n := by omega
      go_wp2
      go_ret
      exact Only.mk (by rw [hm.out]; rfl)
/-- The first ear. -/
def earOf (R : List Int) : Option Nat := (List.range R.length).find? fun c => decide (EarP R c)
theorem earOf_some {R : List Int} {c : Nat} (hc : c < R.length) (h : EarP R c) (hf : ∀ j, j < c → ¬ EarP R j) : earOf R = some c := by
  unfold earOf
  rw [List.find?_range_eq_some]
  exact ⟨decide_eq_true h, List.mem_range.2 hc, fun j hj => by simp [hf j hj]⟩
theorem earOf_none {R : List Int} (hf : ∀ j, j < R.length → ¬ EarP R j) : earOf R = none := by
  unfold earOf
  rw [List.find?_eq_none]
  intro j hj
  simp [hf j (List.mem_range.1 hj)]
/-- The line that cuts off the ear at c. -/
def earLine (C : List Int) (c : Nat) : Int × Int := (min (nth C ((c + C.length - 1) % C.length)) (nth C ((c + 1) % C.length)), max (nth C ((c + C.length - 1) % C.length)) (nth C ((c + 1) % C.length)))
/-- Ears are cut off, as long as there are more than three corners. -/
def runE : Nat → List Int → List Int → List (Int × Int) → Option (List Int × List (Int × Int))
  | 0, _, _, _ => none
  | f + 1, R, C, S => if C.length ≤ 3 then some (R, S) else
    match earOf R with
    | none => none
    | some c => runE f (cutL R c) (C.eraseIdx c) (S ++ [earLine C c])
/-- The numbers 0, 1, .. below n. -/
def upTo (n : Nat) : List Int := (List.range n).map Int.ofNat
theorem upTo_length (n : Nat) : (upTo n).length = n := by simp [upTo]
theorem upTo_succ (n : Nat) : upTo (n + 1) = upTo n ++ [(n : Int)] := by simp [upTo, List.range_succ]
/-- The lines of a list of numbers. -/
def ofL (xs : List Int) : Option (List (Int × Int)) :=
  match runE 13 xs (upTo xs.length) [] with
  | none => none
  | some (R, S) => if maxL R = 1 then some (sortL S) else none
/-- All numbers are from 1 to 12. -/
def Tame (R : List Int) : Prop := ∀ i, i < R.length → 1 ≤ nth R i ∧ nth R i ≤ 12
theorem Tame.fair {R : List Int} (h : Tame R) : Fair R := fun i hi => by have := h i hi; omega
theorem nth_eraseIdx {xs : List Int} {c i : Nat} (_hc : c < xs.length) : nth (xs.eraseIdx c) i = if i < c then nth xs i else nth xs (i + 1) := by
  unfold nth
  rw [List.getD_eq_getElem?_getD, List.getD_eq_getElem?_getD, List.getD_eq_getElem?_getD, List.getElem?_eraseIdx]
  split <;> rfl
theorem cutL_length {R : List Int} {c : Nat} (hc : c < R.length) : (cutL R c).length = R.length - 1 := by
  unfold cutL
  simp only []
  rw [List.length_eraseIdx_of_lt (by simpa using hc)]
  simp
theorem cutL_tame {R : List Int} {c : Nat} (h : Tame R) (hc : c < R.length) (he : EarP R c) (h3 : 3 ≤ R.length) : Tame (cutL R c) := by
  intro i hi
  rw [cutL_length hc] at hi
  unfold cutL
  simp only []
  rw [nth_eraseIdx (by simpa using hc)]
  have ha : (c + R.length - 1) % R.length < R.length := Nat.mod_lt _ (by omega)
  have hb : (c + 1) % R.length < R.length := Nat.mod_lt _ (by omega)
  have hab : (c + R.length - 1) % R.length ≠ (c + 1) % R.length := by
    intro e
    by_cases h0 : c = 0
    · subst h0
      rw [Nat.zero_add, Nat.mod_eq_of_lt (by omega), Nat.zero_add, Nat.mod_eq_of_lt (by omega)] at e
      omega
    · rw [show c + R.length - 1 = (c - 1) + R.length by omega, Nat.add_mod_right, Nat.mod_eq_of_lt (by omega)] at e
      by_cases h1 : c + 1 = R.length
      · rw [h1, Nat.mod_self] at e; omega
      · rw [Nat.mod_eq_of_lt (by omega)] at e; omega
  obtain ⟨e1, e2, e3⟩ := he
  have key : ∀ j, j < R.length → 1 ≤ nth ((R.set ((c + R.length - 1) % R.length) (nth R ((c + R.length - 1) % R.length) - 1)).set ((c + 1) % R.length) (nth (R.set ((c + R.length - 1) % R.length) (nth R ((c + R.length - 1) % R.length) - 1)) ((c + 1) % R.length) - 1)) j ∧
      nth ((R.set ((c + R.length - 1) % R.length) (nth R ((c + R.length - 1) % R.length) - 1)).set ((c + 1) % R.length) (nth (R.set ((c + R.length - 1) % R.length) (nth R ((c + R.length - 1) % R.length) - 1)) ((c + 1) % R.length) - 1)) j ≤ 12 := by
    intro j hj
    have inner : nth (R.set ((c + R.length - 1) % R.length) (nth R ((c + R.length - 1) % R.length) - 1)) ((c + 1) % R.length) = nth R ((c + 1) % R.length) := by
      rw [nth_set ha, if_neg (fun e => hab e.symm)]
    rw [inner, nth_set (by simpa using hb), nth_set ha]
    have hj' := h j hj
    have ha' := h _ ha
    have hb' := h _ hb
    split
    · omega
    · split <;> omega
  split
  · exact key i (by omega)
  · exact key (i + 1) (by omega)
end
section
open Go Go.RowKit

/-- A slice's length. -/
def sliceLen : Value → Nat | .slice _ n _ => n | _ => 0
/-- Two rows of the call's own, of elements of two types, lie in two blocks. -/
theorem own_apart {w : World} {base base' g n cap n' size size' : Nat} {e e' : TypeId} {v : Value} {xs ys : List Value} (h : w.ownsRow base e size (.slice (some ⟨g, 0, none⟩) n cap) n xs) (h' : w.ownsRow base' e' size' v n' ys) (he : e ≠ e') : v.ownBlock ≠ some g := by
  intro hv
  rcases h'.2 with ⟨rfl, _⟩ | ⟨g', cap', cur', rfl, _, hg', _⟩
  · simp [Value.ownBlock] at hv
  · simp [Value.ownBlock] at hv
    subst hv
    rcases h.2 with ⟨h1, _⟩ | ⟨g2, cap2, cur2, h1, _, hg2, _⟩
    · simp at h1
    · simp only [Value.slice.injEq, Option.some.injEq, Addr.mk.injEq, and_true, true_and] at h1
      obtain ⟨rfl, rfl⟩ := h1
      rw [hg'] at hg2
      simp only [Option.some.injEq, Obj.cells.injEq] at hg2
      exact he hg2.2.1.symm
theorem own_pos {w : World} {base n size : Nat} {e : TypeId} {v : Value} {xs : List Value} (h : w.ownsRow base e size v n xs) (hn : 0 < n) : ∃ g cap, v = .slice (some ⟨g, 0, none⟩) n cap := by
  rcases h.2 with ⟨_, h2⟩ | ⟨g, cap, cur, hv, _⟩
  · omega
  · exact ⟨g, cap, hv⟩
/-- The cell of a block that has just been laid. -/
theorem cell_one_new (w : World) (a : Int) (t : TypeId) : ∀ j u, [Value.int .i64 a][j]? = some u → (w.alloc (.cells #[.int .i64 a] t)).cell? (Addr.add ⟨w.heap.size, 0, none⟩ j) = some u := by
  intro j u hj
  have hl : j < 1 := (List.getElem?_eq_some_iff.1 hj).1
  have ha : Addr.add ⟨w.heap.size, 0, none⟩ j = ⟨w.heap.size, j, none⟩ := by first | (simp [Addr.add]; done) | (simp [Addr.add]; omega)
  rw [ha]
  exact (Blk.new w t _).c j (by rw [← hj]; simp)
theorem cell_two_new (w : World) (a b : Int) (t : TypeId) : ∀ j u, [Value.int .i64 a, .int .i64 b][j]? = some u → (w.alloc (.cells #[.int .i64 a, .int .i64 b] t)).cell? (Addr.add ⟨w.heap.size, 0, none⟩ j) = some u := by
  intro j u hj
  have hl : j < 2 := (List.getElem?_eq_some_iff.1 hj).1
  have ha : Addr.add ⟨w.heap.size, 0, none⟩ j = ⟨w.heap.size, j, none⟩ := by first | (simp [Addr.add]; done) | (simp [Addr.add]; omega)
  rw [ha]
  exact (Blk.new w t _).c j (by rw [← hj]; simp)
/-- What linesOf returns. -/
def LinesOf (xs : List Int) (w : World) (e : Ending) (w' : World) : Prop :=
  Below w.heap.size w w' ∧ ((runE 13 xs (upTo xs.length) [] = none ∧ e = .returned (.tuple #[.slice none 0 0, .bool false])) ∨
    ∃ R S a cap, runE 13 xs (upTo xs.length) [] = some (R, S) ∧ e = .returned (.tuple #[.slice a S.length cap, .bool (maxL R == 1)]) ∧
      w'.ownsRow w.heap.size 29 2 (.slice a S.length cap) S.length (cP (sortL S)) ∧ Prs w' a (sortL S) ∧ S.length ≤ cap)
set_option maxRecDepth 100000 in
set_option maxHeartbeats 4000000 in
theorem linesOf_any (b off n cp : Nat) (xs : List Int) (w : World) (hl : xs.length = n) (h3 : 3 ≤ n) (h12 : n ≤ 12) (ht : Tame xs)
    (hc : ∀ i, i < n → w.cell? ⟨b, off + i, none⟩ = some (.int .i64 (nth xs i))) :
    Calls Try.prog 19 #[.slice (some ⟨b, off, none⟩) n cp] w (LinesOf xs w) := by
  obtain ⟨i0, hi, hz0, hz1, hz2⟩ := info_parts infoInt
  have G0 := Lib.hid hi
  have G1 := Lib.hid hz0
  have G2 := Lib.hid hz1
  have G3 := Lib.hid hz2
  clear hi hz0 hz1 hz2
  obtain ⟨j0, hi, hz0, hz1, hz2⟩ := info_parts infoPair
  have P0 := Lib.hid hi
  have P1 := Lib.hid hz0
  have P2 := Lib.hid hz1
  have P3 := Lib.hid hz2
  clear hi hz0 hz1 hz2
  have hb : b < w.heap.size := block_lt_of_cell (hc 0 (by omega))
  replace hc := Lib.hid hc
  replace ht := Lib.hid ht
  have hrun : Hid (runE 13 xs (upTo xs.length) [] = runE 13 xs (upTo n) []) := by subst hl; exact Lib.hid rfl
  replace hl := Lib.hid hl
  go_enter Try.func19, Try.ntmps19
  go_wp2
  go_loopw [4, 11] (fun v i wr => ∃ k : Nat, k ≤ n ∧ i = .int .i64 k ∧ wr.ownsRow w.heap.size 3 1 v k (lI (upTo k)) ∧ Below w.heap.size w wr) (fun _ i _ => n - (intOf i).toNat)
  case atStart => exact ⟨0, by omega, rfl, World.ownsRow_nil _ _ _ _, Below.refl _ _⟩
  case round =>
    obtain ⟨k, hk, rfl, hown, B0⟩ := hrel
    by_cases hlt : k < n
    · have hi0 : (k : Int) < (n : Int) := by omega
      go_wp2_with (at_builtin; refine wpList_append_own _ rfl _ _ 35 rfl w.heap.size 3 i0 (.int .i64 0) 1 8 Try.underlying35 G0.out G1.out G2.out G3.out rfl (by decide) _ _ _ rfl (hown.alloc _) ⟨_, 0, none⟩ 1 1 [.int .i64 (k : Int)] rfl rfl (cell_one_new _ _ _) (by simp [Value.oneCell']) (by unfold maxLen; omega) (by omega) (by have := B0.size; simp; omega) ?_; intro v' w2 hown2 hgrow _)
      have hs := B0.size
      have B2 := (B0.alloc hs _).grown hgrow (by simp; omega) (fun q hq => (hown.lt q hq).1)
      go_roundw
      case rel => exact ⟨k + 1, by omega, by go_num, by rw [upTo_succ]; simpa [lI] using hown2, B2⟩
      case measure => simp [intOf]; omega
    · obtain rfl : k = n := by omega
      obtain ⟨gC, capC, rfl⟩ := own_pos hown (by omega)
      have hgC := hown.lt gC rfl
      go_wp2
      go_loopw [0, 4, 6] (fun r v s wr => ∃ (f m : Nat) (R C : List Int) (S : List (Int × Int)) (b' off' cp' capC : Nat), r = .slice (some ⟨b', off', none⟩) m cp' ∧ v = .slice (some ⟨gC, 0, none⟩) m capC ∧ R.length = m ∧ C.length = m ∧ 3 ≤ m ∧ S.length + m = k ∧ f + k = 13 + m ∧ runE f R C S = runE 13 xs (upTo k) [] ∧ Tame R ∧
        (∀ i, i < m → wr.cell? ⟨b', off' + i, none⟩ = some (.int .i64 (nth R i))) ∧ b' ≠ gC ∧ (∀ k, s.ownBlock = some k → b' ≠ k) ∧ wr.ownsRow w.heap.size 3 1 (.slice (some ⟨gC, 0, none⟩) m capC) m (lI C) ∧ wr.ownsRow w.heap.size 29 2 s S.length (cP S) ∧ Below w.heap.size w wr) (fun _ v _ _ => sliceLen v)
      case atStart => exact ⟨13, k, xs, upTo k, [], b, off, cp, capC, rfl, rfl, hl.out, upTo_length _, h3, by simp, by omega, rfl, ht.out, fun i hi => cellB B0 (hc.out i hi), by omega, (fun _ h => by cases h), hown, World.ownsRow_nil _ _ _ _, B0⟩
      case round =>
        clear hown B0
        obtain ⟨f, m, R, C, S, b', off', cp', capC', rfl, rfl, hR, hC, hm3, hSm, hf, hrunE, hT, hcR, hbg, hbs, hownC, hownS, B0⟩ := hrel
        replace hR := Lib.hid hR
        replace hC := Lib.hid hC
        replace hrunE := Lib.hid hrunE
        replace hT := Lib.hid hT
        replace hcR := Lib.hid hcR
        replace hbs := Lib.hid hbs
        have hm12 : m ≤ 12 := by omega
        obtain ⟨f', rfl⟩ : ∃ f', f = f' + 1 := ⟨f - 1, by omega⟩
        by_cases hm : 3 < m
        · go_wp2_with (go_at_call 31; refine (findEar_any b' off' m cp' R _ hR.out (by omega) hm12 hcR.out).mono ?_; rintro e w1 ⟨r, rfl, hfe, rfl⟩; rcases hfe with ⟨c, rfl, hcl, hear, hfirst⟩ | ⟨rfl, hno⟩)
          · have hcm : c < m := by rw [← hR.out]; exact hcl
            have hstep : Hid (runE (f' + 1) R C S = runE f' (cutL R c) (C.eraseIdx c) (S ++ [earLine C c])) := by
              show runE (f' + 1) R C S = _
              rw [runE, if_neg (by rw [hC.out]; omega), earOf_some hcl hear hfirst]
            have hT' := Lib.hid (cutL_tame hT.out hcl hear (by rw [hR.out]; omega))
            have hline : Hid (earLine C c = (min (nth C ((c + m - 1) % m)) (nth C ((c + 1) % m)), max (nth C ((c + m - 1) % m)) (nth C ((c + 1) % m)))) := by
              show earLine C c = _
              unfold earLine
              rw [hC.out]
            obtain ⟨m0, m1, m2⟩ := mod_ahead c m (by omega)
            obtain ⟨m3, m4, m5⟩ := mod_at1 c m (by omega)
            have ha : (c + m - 1) % m < m := Nat.mod_lt _ (by omega)
            have hb2 : (c + 1) % m < m := Nat.mod_lt _ (by omega)
            obtain ⟨hCl, hcC⟩ := own_ints hownC
            have q0 := hcC _ ha
            have q1 := hcC _ hb2
            rw [Nat.zero_add] at q0 q1
            have x0 := cellX q0
            have x1 := cellX q1
            have A := fun W => ahead_any m c W (by omega) (by omega) (by omega) (by omega)
            have B := fun W => after_any m c W (by omega) (by omega) (by omega)
            have CT := Lib.hid (fun W hW => cut_any b' off' m cp' c R W hR.out (by omega) hm12 hcm hT.out.fair hW)
            clear hfirst hear hcl q0 q1 hCl hcC
            have hc0 : (0 : Int) ≤ (c : Int) := by omega
            have hcl2 : (c : Int) + 1 ≤ 1000 := by omega
            go_wp2
            refine wp_region_take_tail 14 u6 (by kernel_rfl) (by kernel_rfl) (fun _ _ _ h => h) (.inl ⟨by rfl, fun w => by go_simp⟩) ?_
            simp only [Act.put, List.setIfInBounds_toArray, List.set_cons_zero, List.set_cons_succ]
            dsimp only [List.take, List.drop, Nat.reduceSub]
            repeat (go_big_quiet_step ((first
              | (go_at_call 32; exact onlyE (A _))
              | (go_at_call 21; exact onlyE (B _))
              | (go_at_call 26; exact callE (lineOf_any _ _ _)))))
            refine wpQuiet_nil ?_
            rintro ⟨w1, hw1⟩
            dsimp only
            replace B0 := nextB B0 hw1
            replace hownC := owns_next hownC hw1
            replace hownS := owns_next hownS hw1
            replace hcR := Lib.hid (fun i hi => cellB hw1 (hcR.out i hi))
            clear x0 x1 hw1 A B
            have e1 : min (nth C ((c + m - 1) % m)) (nth C ((c + 1) % m)) = (earLine C c).1 := by rw [hline.out]
            have e2 : max (nth C ((c + m - 1) % m)) (nth C ((c + 1) % m)) = (earLine C c).2 := by rw [hline.out]
            rw [e1, e2]
            clear e1 e2 hline m0 m1 m2 m3 m4 m5
            generalize earLine C c = ln at *
            go_wp2_with (at_builtin; refine wpList_append_own _ rfl _ _ 27 rfl w.heap.size 29 j0 (.agg #[.int .i64 0, .int .i64 0]) 2 16 Try.underlying27 P0.out P1.out P2.out P3.out rfl (by decide) _ _ _ rfl (hownS.alloc _) ⟨_, 0, none⟩ 1 1 [.int .i64 ln.1, .int .i64 ln.2] rfl rfl (cell_two_new _ _ _ _) (by simp [Value.oneCell']) (by unfold maxLen; omega) (by omega) (by have := B0.size; simp; omega) ?_; intro v' w2 hownS2 hgrow _)
            have hgne := own_apart hownC hownS (by decide)
            have hsz := B0.size
            have hownC2 := (hownC.alloc (.cells #[.int .i64 ln.1, .int .i64 ln.2] 29)).kept hgrow (.inr (fun e => hgne e.symm))
            have hcR2 := Lib.hid (fun i (hi : i < m) => hgrow.cell (cellB (b1 w1 (.cells #[.int .i64 ln.1, .int .i64 ln.2] 29)) (hcR.out i hi)) (fun e => hbs.out b' e.symm rfl))
            have B2 := (B0.alloc hsz (.cells #[.int .i64 ln.1, .int .i64 ln.2] 29)).grown hgrow (by simp; omega) (fun q hq => (hownS.lt q hq).1)
            have e3 : S.length + 1 = (S ++ [ln]).length := by simp
            have e4 : cP S ++ [.int .i64 ln.1, .int .i64 ln.2] = cP (S ++ [ln]) := by simp [cP]
            rw [e3, e4] at hownS2
            clear e3 e4 hgrow hownC hownS hcR B0 hsz hgne
            go_wp2_with (go_at_call 33; refine (CT.out _ hcR2.out).mono ?_; rintro e w3 ⟨g3, cap3, rfl, hown3, hb3⟩)
            have hsz2 := B2.size
            have hg3 := hown3.lt g3 rfl
            have hgc2 : gC < w2.heap.size := (hownC2.lt gC rfl).2
            have hv2 := Lib.hid (fun k (hk : v'.ownBlock = some k) => (hownS2.lt k hk).2)
            replace hownC2 := owns_next hownC2 hb3
            replace hownS2 := owns_next hownS2 hb3
            replace B2 := nextB B2 hb3
            clear hb3 hcR2
            have DL := Lib.hid (delete_any w.heap.size gC m capC' c (lI C) _ hownC2 (lI_one C) hcm (by omega))
            go_wp2_with (go_at_call 34; refine DL.out.mono ?_; rintro e w4 ⟨rfl, hownC4, hgr4⟩)
            rw [lI_erase] at hownC4
            have hgne := own_apart hownC2 hownS2 (by decide)
            have hownS4 := hownS2.kept hgr4 (.inr hgne)
            have hown4 := hown3.kept hgr4 (.inr (by simp [Value.ownBlock]; omega))
            have hsz3 := B2.size
            have B4 := B2.grown hgr4 (by omega) (fun q hq => by cases hq; exact hgC.1)
            go_roundw
            case rel =>
              refine ⟨f', m - 1, cutL R c, C.eraseIdx c, S ++ [ln], g3, 0, cap3, capC', rfl, rfl, ?_, ?_, by omega, by simp; omega, by omega, ?_, hT'.out, (own_ints hown4).2, by omega, ?_, hownC4, hownS4, B4⟩
              · rw [cutL_length (by rw [hR.out]; exact hcm), hR.out]
              · rw [List.length_eraseIdx_of_lt (by rw [hC.out]; exact hcm), hC.out]
              · rw [← hrunE.out, hstep.out]
              · intro k hk
                have := hv2.out k hk
                omega
            case measure => simp [sliceLen]; omega
          · go_wp2
            go_ret2
            refine ⟨B0, .inl ⟨?_, rfl⟩⟩
            rw [hrun.out, ← hrunE.out, runE, if_neg (by rw [hC.out]; omega), earOf_none hno]
        · obtain rfl : m = 3 := by omega
          have hres : Hid (runE 13 xs (upTo xs.length) [] = some (R, S)) := by
            show runE 13 xs (upTo xs.length) [] = _
            rw [hrun.out, ← hrunE.out, runE, if_pos (by rw [hC.out]; omega)]
          have hS9 : S.length ≤ 9 := by omega
          have hownS' := Lib.hid hownS
          obtain ⟨aS, cS, rfl, hcS, hpS⟩ := own_prs hownS
          have hnil : aS = none → cS = 0 := fun h => by
            subst h
            rcases hownS.2 with ⟨h1, _⟩ | ⟨g, cap, cur, h1, _⟩
            · simp at h1; exact h1.2
            · simp at h1
          have hpart := Lib.hid (show PartOk wr ⟨aS, S.length, cS, S⟩ from ⟨hpS, rfl, hnil⟩)
          have hall : Hid (allP [⟨aS, S.length, cS, S⟩] = S) := Lib.hid (by simp [allP])
          have MX := Lib.hid (fun W h => max_any b' off' 3 cp' R W hR.out (by omega) (by omega) h)
          clear hpS hnil hownC hownS
          go_wp2_with fail
          have hblk := Blk.new wr 27 #[.slice aS S.length cS]
          refine calls_at (F := fun W => Below wr.heap.size wr W ∧ Blk W wr.heap.size 27 #[.slice aS S.length cS]) ⟨b1 _ _, hblk⟩ ?_
          clear hblk
          rintro W ⟨C0, hblk⟩
          have z1 : ∀ i, i < 1 → W.cell? ⟨wr.heap.size, i, none⟩ = some (.slice (pat [⟨aS, S.length, cS, S⟩] i).a (pat [⟨aS, S.length, cS, S⟩] i).n (pat [⟨aS, S.length, cS, S⟩] i).c) := fun i hi => by
            obtain rfl : i = 0 := by omega
            exact hblk.c 0 rfl
          have z2 : ∀ i, i < 1 → PartOk W (pat [⟨aS, S.length, cS, S⟩] i) := fun i hi => by
            obtain rfl : i = 0 := by omega
            exact hpart.out.next C0
          have SR := sorted_any wr.heap.size 1 1 [⟨aS, S.length, cS, S⟩] W rfl (by omega) (by rw [hall.out]; omega) z1 z2
          rw [hall.out] at SR
          refine SR.mono ?_
          rintro e w1 ⟨a1, c1, rfl, hown1, hp1, hc1, hb1⟩
          dsimp only
          have hcR1 := Lib.hid (fun i hi => cellB hb1 (cellB C0 (hcR.out i hi)))
          have B3 := nextB (nextB B0 C0) hb1
          have hown1' := Lib.hid (own_base hown1 (show w.heap.size ≤ W.heap.size by have := B0.size; have := C0.size; omega))
          clear hblk hb1 hcR C0 SR hown1 B0 z1 z2
          go_wp2_with (go_at_call 35; refine (MX.out _ hcR1.out).mono ?_; rintro e w2 ⟨rfl, rfl⟩)
          go_ret2
          exact ⟨B3, .inr ⟨R, S, a1, c1, hres.out, rfl, hown1'.out, hp1, hc1⟩⟩
end
end Go.Proofs.Ytkbdclladfjmcaa
