/- Layer 2: slices.Concat of lists of pairs. -/
import Derived.Test.YtflbaadfbjpakaaBu
namespace Go.Proofs.Ytflbaadfbjpakaa
open Go Go.RowKit

/-- A slice of pairs, and what it holds. -/
structure Part where
  a : Option Addr
  n : Nat
  c : Nat
  L : List (Int × Int)
def pat (ps : List Part) (i : Nat) : Part := ps.getD i ⟨none, 0, 0, []⟩
/-- All pairs of the parts. -/
def allP (ps : List Part) : List (Int × Int) := ps.flatMap Part.L
/-- The part's pairs lie in memory. -/
def PartOk (w : World) (p : Part) : Prop := Prs w p.a p.L ∧ p.L.length = p.n ∧ (p.a = none → p.c = 0)
theorem PartOk.next {w w' : World} {p : Part} (h : PartOk w p) (hb : Below w.heap.size w w') : PartOk w' p := ⟨h.1.next hb, h.2⟩
theorem allP_succ (ps : List Part) (k : Nat) (hk : k < ps.length) : allP (ps.take (k + 1)) = allP (ps.take k) ++ (pat ps k).L := by
  rw [List.take_succ_eq_append_getElem hk, allP, List.flatMap_append]
  simp [allP, pat, hk]
theorem allP_le (ps : List Part) (k : Nat) : (allP (ps.take k)).length ≤ (allP ps).length := by
  have e : allP ps = allP (ps.take k) ++ allP (ps.drop k) := by
    rw [allP, allP, allP, ← List.flatMap_append, List.take_append_drop]
  rw [e, List.length_append]
  omega
theorem prs_cells {w : World} {b off : Nat} {L : List (Int × Int)} (hc : ∀ i, i < L.length → w.cell? ⟨b, off + i * 2, none⟩ = some (.int .i64 (pth L i).1) ∧ w.cell? ⟨b, off + i * 2 + 1, none⟩ = some (.int .i64 (pth L i).2)) :
    ∀ j u, (cP L)[j]? = some u → w.cell? (Addr.add ⟨b, off, none⟩ j) = some u := by
  intro j u hj
  have hl := cP_length L
  have hjl : j < L.length * 2 := by have := (List.getElem?_eq_some_iff.1 hj).1; omega
  obtain ⟨h1, h2⟩ := cP_at L (j / 2) (by omega)
  obtain ⟨e1, e2⟩ := hc (j / 2) (by omega)
  rw [show Addr.add ⟨b, off, none⟩ j = ⟨b, off + j, none⟩ by simp [Addr.add]]
  by_cases hp : j % 2 = 0
  · rw [show j / 2 * 2 = j by omega, hj] at h1
    rw [show off + j = off + j / 2 * 2 by omega, e1, h1]
  · rw [show j / 2 * 2 + 1 = j by omega, hj] at h2
    rw [show off + j = off + j / 2 * 2 + 1 by omega, e2, h2]

theorem part_src {w : World} {p : Part} {ad : Addr} (h : PartOk w p) (ha : p.a = some ad) : ∀ j u, (cP p.L)[j]? = some u → w.cell? (ad.add j) = some u := by
  intro j u hj
  rcases h.1 with h0 | ⟨b, off, e, hc⟩
  · rw [List.eq_nil_of_length_eq_zero h0] at hj
    simp [cP] at hj
  · rw [ha] at e
    cases e
    exact prs_cells hc j u hj
theorem part_nil {w : World} {p : Part} (h : PartOk w p) (ha : p.a = none) : p.n = 0 ∧ p.c = 0 ∧ p.L = [] := by
  refine ⟨?_, h.2.2 ha, ?_⟩
  · rcases h.1 with h0 | ⟨b, off, e, hc⟩
    · rw [← h.2.1, h0]
    · rw [ha] at e; cases e
  · rcases h.1 with h0 | ⟨b, off, e, hc⟩
    · exact List.eq_nil_of_length_eq_zero h0
    · rw [ha] at e; cases e
theorem grow_both (k : Nat) (w : World) (h60 : k ≤ 1000) :
    Calls Try.prog 91 #[.slice none 0 0, .int .i64 k] w fun e w' => ∃ v, e = .returned v ∧ w'.ownsRow w.heap.size 60 2 v 0 [] ∧ Below w.heap.size w w' := by
  by_cases h0 : k = 0
  · subst h0
    refine (grow_zero w).mono ?_
    rintro e w' ⟨rfl, rfl⟩
    exact ⟨_, rfl, World.ownsRow_nil _ _ _ _, Below.refl _ _⟩
  · refine (grow_any k w (by omega) h60).mono ?_
    rintro e w' ⟨g, cap, rfl, h1, h2⟩
    exact ⟨_, rfl, h1, h2⟩

set_option maxRecDepth 100000 in
set_option maxHeartbeats 1600000 in
theorem concat_any (b n c : Nat) (ps : List Part) (w : World) (hn : ps.length = n) (h60 : n ≤ 1000) (hsum : (allP ps).length ≤ 1000)
    (hc : ∀ i, i < n → w.cell? ⟨b, i, none⟩ = some (.slice (pat ps i).a (pat ps i).n (pat ps i).c)) (hok : ∀ i, i < n → PartOk w (pat ps i)) :
    Calls Try.prog 83 #[.slice (some ⟨b, 0, none⟩) n c] w fun e w' => ∃ v, e = .returned v ∧
      w'.ownsRow w.heap.size 60 2 v (allP ps).length (cP (allP ps)) ∧ Below w.heap.size w w' := by
  obtain ⟨i0, hi, hz0, hz1, hz2⟩ := info_parts infoPair
  have G0 := Lib.hid hi
  have G1 := Lib.hid hz0
  have G2 := Lib.hid hz1
  have G3 := Lib.hid hz2
  clear hi hz0 hz1 hz2
  have hsucc := Lib.hid (fun k (hk : k < n) => allP_succ ps k (by omega))
  have hle := Lib.hid (fun k => allP_le ps k)
  have hall : Hid (ps.take n = ps) := List.take_of_length_le (by omega)
  replace hc := Lib.hid hc
  replace hok := Lib.hid hok
  clear hn
  go_enter Try.func83, Try.ntmps83
  go_wp2
  go_loop [3, 11] (fun s i => ∃ k : Nat, k ≤ n ∧ i = .int .i64 k ∧ s = .int .i64 ((allP (ps.take k)).length : Nat)) (fun _ i => n - (intOf i).toNat)
  case atStart => exact ⟨0, by omega, rfl, rfl⟩
  case round =>
    obtain ⟨k, hk, rfl, rfl⟩ := hrel
    by_cases hlt : k < n
    · have x0 := hc.out k hlt
      have hi0 : (k : Int) < (n : Int) := by omega
      have e1 := hle.out (k + 1)
      rw [hsucc.out k hlt, List.length_append, (hok.out k hlt).2.1] at e1
      have e2 : Hid ((allP (ps.take (k + 1))).length = (allP (ps.take k)).length + (pat ps k).n) := by rw [hsucc.out k hlt, List.length_append, (hok.out k hlt).2.1]; exact Lib.hid rfl
      generalize (allP (ps.take k)).length = s at *
      generalize pat ps k = p at *
      go_wp2
      go_round
      case rel => exact ⟨k + 1, by omega, by go_num, by rw [e2.out]; go_num⟩
      case measure => simp [intOf]; omega
    · obtain rfl : k = n := by omega
      rw [hall.out]
      have hl0 := hle.out
      have hlk := Lib.hid hl0
      clear hl0
      go_wp2_with (go_at_call 91; refine (grow_both _ _ hsum).mono ?_; rintro e w1 ⟨v, rfl, hown, B0⟩)
      go_loopw [6, 27] (fun v i wr => ∃ q : Nat, q ≤ k ∧ i = .int .i64 q ∧ wr.ownsRow w.heap.size 60 2 v (allP (ps.take q)).length (cP (allP (ps.take q))) ∧ Below w.heap.size w wr) (fun _ i _ => k - (intOf i).toNat)
      case atStart => exact ⟨0, by omega, rfl, hown, B0⟩
      case round =>
        clear hown B0
        obtain ⟨q, hq, rfl, hown, B0⟩ := hrel
        by_cases hlt : q < k
        · have x0 := cellB B0 (hc.out q hlt)
          have hi0 : (q : Int) < (k : Int) := by omega
          have e1 := hlk.out (q + 1)
          have hp := Lib.hid ((hok.out q hlt).next B0)
          have es := Lib.hid (hsucc.out q hlt)
          rw [es.out, List.length_append, hp.out.2.1] at e1
          have hL := Lib.hid hp.out.2.1
          generalize allP (ps.take q) = S at *
          generalize pat ps q = p at *
          obtain ⟨pa, pn, pc, pL⟩ := p
          cases pa with
          | none =>
            obtain ⟨rfl, rfl, rfl⟩ := part_nil hp.out rfl
            go_wp2_with (at_builtin; refine wpList_append_own_none rfl _ _ 22 rfl w.heap.size 60 i0 2 Try.underlying22 G0.out _ _ _ rfl hown rfl ?_)
            go_roundw
            case rel => exact ⟨q + 1, by omega, by go_num, by rw [es.out, List.append_nil]; exact hown, B0⟩
            case measure => simp [intOf]; omega
          | some ad =>
            have src := Lib.hid (part_src hp.out rfl)
            have hL2 := Lib.hid (show (cP pL).length = pn * 2 by rw [cP_length, hL.out])
            have hone := Lib.hid (cP_one pL)
            simp only [] at e1
            go_wp2_with (at_builtin; refine wpList_append_own _ rfl _ _ 22 rfl w.heap.size 60 i0 (.agg #[.int .i64 0, .int .i64 0]) 2 16 Try.underlying22 G0.out G1.out G2.out G3.out rfl (by decide) _ _ _ rfl hown ad pn pc (cP pL) rfl hL2.out src.out hone.out (by unfold maxLen; omega) (by omega) B0.size ?_; intro v' w2 hown2 hgrow _)
            have B2 := B0.grown hgrow B0.size (fun k hk => (hown.lt k hk).1)
            go_roundw
            case rel => exact ⟨q + 1, by omega, by go_num, by rw [es.out, List.length_append, cP_append]; simp only []; rw [hL.out]; exact hown2, B2⟩
            case measure => simp [intOf]; omega
        · obtain rfl : q = k := by omega
          rw [hall.out] at hown
          go_wp2
          go_ret
          exact ⟨_, rfl, hown, B0⟩
end Go.Proofs.Ytflbaadfbjpakaa
