/- Layer 8, the specification: turn, Turn. -/
import Derived.Test.YtniknldeafmgaaaQd
import Derived.Test.YtniknldeafmgaaaHe
namespace Go.Proofs.Ytniknldeafmgaaa
set_option linter.unusedSimpArgs false
set_option linter.unusedVariables false
open Go Go.RowKit

/-- Block G begins with these numbers. -/
def IBlk (W : World) (G : Nat) (xs : List Int) : Prop := ∃ cur : Array Value, Blk W G 3 cur ∧ cur.toList.take xs.length = lI xs
theorem own_iblk {w : World} {base G n c : Nat} {xs : List Int} (h : w.ownsRow base 3 1 (.slice (some ⟨G, 0, none⟩) n c) n (lI xs)) (hl : xs.length = n) : IBlk w G xs := by
  rcases h.2 with ⟨h1, _⟩ | ⟨g, cap, cur, h1, hg, hh, hcap, _, _, ht⟩
  · cases h1
  · cases h1
    exact ⟨cur, hh, by rw [hl]; simpa using ht⟩
theorem IBlk.ints {W : World} {G : Nat} {xs : List Int} (h : IBlk W G xs) : Ints W (some ⟨G, 0, none⟩) xs := by
  obtain ⟨cur, hb, ht⟩ := h
  refine .inr ⟨G, 0, rfl, fun i hi => ?_⟩
  have h1 := lI_get hi
  rw [← ht, List.getElem?_take, if_pos hi] at h1
  rw [Nat.zero_add]
  exact hb.c i (by simpa using h1)
theorem IBlk.set {W : World} {G i : Nat} {xs : List Int} (h : IBlk W G xs) (hi : i < xs.length) (x : Int) : IBlk (W.setCell ⟨G, i, none⟩ (.int .i64 x)) G (xs.set i x) := by
  obtain ⟨cur, hb, ht⟩ := h
  refine ⟨cur.setIfInBounds i (.int .i64 x), hb.setA _, ?_⟩
  rw [List.length_set, Array.toList_setIfInBounds, List.take_set, ht]
  unfold lI
  rw [List.map_set]
theorem IBlk.ext {W W' : World} {G : Nat} {xs : List Int} (h : IBlk W G xs) (hb : Below W.heap.size W W') : IBlk W' G xs := let ⟨cur, h1, h2⟩ := h; ⟨cur, h1.ext hb, h2⟩
theorem IBlk.fr {W : World} {G : Nat} {xs : List Int} (h : IBlk W G xs) (i : Nat) : W.frozen? ⟨G, i, none⟩ = false := let ⟨_, h1, _⟩ := h; h1.fr i
theorem stL_upf {a i : Nat} (g : Nat → Nat) (x : Nat) (hi : i < a) : (stL a g).set i (x : Int) = stL a (upf g i x) := by
  apply ext_nth
  · rw [List.length_set, stL_len, stL_len]
  · intro k hk
    rw [List.length_set, stL_len] at hk
    rw [stL_nth _ hk]
    unfold nth upf
    rw [List.getD_eq_getElem?_getD, List.getElem?_set]
    by_cases e : i = k
    · subst e
      rw [if_pos rfl, if_pos (by rw [stL_len]; exact hk), if_pos rfl]; rfl
    · rw [if_neg e, if_neg (fun h => e h.symm)]
      have := stL_nth g hk
      unfold nth at this
      rw [List.getD_eq_getElem?_getD] at this
      exact this
/-- A new state was returned. -/
def NewS (a : Nat) (g : Nat → Nat) (w : World) (e : Ending) (w' : World) : Prop := ∃ ad c, e = .returned (.slice ad a c) ∧ Ints w' ad (stL a g) ∧ Below w.heap.size w w'
set_option maxRecDepth 100000 in
set_option maxHeartbeats 4000000 in
theorem refTurn_any (a b : Nat) (g : Nat → Nat) (i j : Nat) (ad : Option Addr) (c : Nat) (w : World) (hs : IsP a b g) (hI : Ints w ad (stL a g)) (hi : i < a) (hj : j < b) :
    Calls Try.prog 56 #[.slice ad a c, .int .i64 (i : Int), .int .i64 (j : Int)] w (NewS a (tnf a b g i j) w) := by
  have ha1 := hs.a1
  have ha6 := hs.a6
  have hb6 := hs.b6
  have hgi := hs.gb i
  have hmo := mo_le hs i
  have hi' : (i : Int) < (a : Int) := by omega
  have hI1 := Lib.hid hI
  have hl := Lib.hid (stL_len a g)
  have hx0 := Lib.hid (fun (hi : i < a) => stL_nth g hi)
  obtain ⟨B0, off, rfl, _⟩ := ints_at hI (by rw [stL_len]; omega)
  have hN := Lib.hid (fun w hI => refNext_any a b g i j (some ⟨B0, off, none⟩) c w hs hI hi hj)
  have hE := Lib.hid (fun w hI => refEnd_any a b g i j (some ⟨B0, off, none⟩) c w hs hI hi (by omega))
  clear hI
  by_cases hn : nxt b g i j
  · have ht : tnf a b g i j = upf g i (g i + 1) := if_pos hn
    rw [ht]
    have hNw := Lib.hid (fun w hI => by have := hN.out w hI; rwa [decide_eq_true hn] at this)
    have hm : g i + 1 ≤ b := by unfold nxt at hn; omega
    clear hn ht hN hE
    go_enter Try.func56, Try.ntmps56
    go_upto_region 4 with (first
      | (at_builtin; refine wpList_copy rfl _ _ rfl w.heap.size _ rfl (World.ownsRow_nil _ _ _ _) _ a c (stL a g) rfl hI1.out hl.out (by simp) (by omega) (Nat.le_refl _) ?_; intro a' c' w' hown' hg' hc' hI'; have B := Lib.hid ((Below.refl w.heap.size w).grown hg' (Nat.le_refl _) (fun q hq => by have h2 : (none : Option Nat) = some q := hq; cases h2)); replace hown' := Lib.hid hown')
      | (go_at_call 66; (with_reducible refine (hNw.out _ (hI1.out.next B.out)).mono ?_); rintro _ _ ⟨rfl, rfl⟩))
    obtain ⟨G, cap, e⟩ := own_pos hown'.out (by omega)
    cases e
    have hG := (hown'.out.lt G rfl).1
    have hk := own_iblk hown'.out hl.out
    have x0 : w'.cell? ⟨G, i, none⟩ = some (.int .i64 (g i : Int)) := by
      obtain ⟨b1, o1, e1, h1⟩ := ints_at hk.ints (by rw [hl.out]; omega)
      cases e1
      have := h1 i (by rw [hl.out]; omega)
      rwa [Nat.zero_add, hx0.out hi] at this
    have f0 := hk.fr
    have hk1 := hk.set (i := i) (by rw [hl.out]; exact hi) ((g i + 1 : Nat) : Int)
    rw [stL_upf g _ hi] at hk1
    have B1 := Lib.hid (B.out.setCell (p := ⟨G, i, none⟩) hG (.int .i64 ((g i + 1 : Nat) : Int)))
    replace hk1 := Lib.hid hk1.ints
    clear hk hI' hown'
    go_wp2
    go_ret
    exact ⟨_, _, rfl, hk1.out, B1.out⟩
  · have hNw := Lib.hid (fun w hI => by have := hN.out w hI; rwa [decide_eq_false hn] at this)
    by_cases he : enf a g i j
    · have ht : tnf a b g i j = upf g i j := by
        unfold tnf
        rw [if_neg hn, if_pos he]
        unfold enf at he
        congr 1; omega
      rw [ht]
      have hEw := Lib.hid (fun w hI => by have := hE.out w hI; rwa [decide_eq_true he] at this)
      have hm : g i = j + 1 := by unfold enf at he; omega
      clear hn he ht hN hE
      go_enter Try.func56, Try.ntmps56
      go_upto_region 6 with (first
        | (at_builtin; refine wpList_copy rfl _ _ rfl w.heap.size _ rfl (World.ownsRow_nil _ _ _ _) _ a c (stL a g) rfl hI1.out hl.out (by simp) (by omega) (Nat.le_refl _) ?_; intro a' c' w' hown' hg' hc' hI'; have B := Lib.hid ((Below.refl w.heap.size w).grown hg' (Nat.le_refl _) (fun q hq => by have h2 : (none : Option Nat) = some q := hq; cases h2)); replace hown' := Lib.hid hown')
        | (go_at_call 66; (with_reducible refine (hNw.out _ (hI1.out.next B.out)).mono ?_); rintro _ _ ⟨rfl, rfl⟩)
        | (go_at_call 51; (with_reducible refine (hEw.out _ (hI1.out.next B.out)).mono ?_); rintro _ _ ⟨rfl, rfl⟩))
      obtain ⟨G, cap, e⟩ := own_pos hown'.out (by omega)
      cases e
      have hG := (hown'.out.lt G rfl).1
      have hk := own_iblk hown'.out hl.out
      have x0 : w'.cell? ⟨G, i, none⟩ = some (.int .i64 ((j : Int) + 1)) := by
        obtain ⟨b1, o1, e1, h1⟩ := ints_at hk.ints (by rw [hl.out]; omega)
        cases e1
        have := h1 i (by rw [hl.out]; omega)
        rw [Nat.zero_add, hx0.out hi, hm] at this
        exact this
      have f0 := hk.fr
      have hk1 := hk.set (i := i) (by rw [hl.out]; exact hi) (j : Int)
      rw [stL_upf g _ hi] at hk1
      have B1 := Lib.hid (B.out.setCell (p := ⟨G, i, none⟩) hG (.int .i64 (j : Int)))
      replace hk1 := Lib.hid hk1.ints
      replace hm := Lib.hid hm
      clear hk hI' hown'
      go_wp2
      go_ret
      refine ⟨_, _, rfl, ?_, ?_⟩
      · have := hk1.out
        first | exact this | (rw [show (j : Int) + 1 - 1 = (j : Int) by omega]; exact this)
      · have := B1.out
        first | exact this | (rw [show (j : Int) + 1 - 1 = (j : Int) by omega]; exact this)
    · have ht : tnf a b g i j = g := by unfold tnf; rw [if_neg hn, if_neg he]
      rw [ht]
      have hEw := Lib.hid (fun w hI => by have := hE.out w hI; rwa [decide_eq_false he] at this)
      clear hn he ht hN hE
      go_enter Try.func56, Try.ntmps56
      go_wp2_with (first
        | (at_builtin; refine wpList_copy rfl _ _ rfl w.heap.size _ rfl (World.ownsRow_nil _ _ _ _) _ a c (stL a g) rfl hI1.out hl.out (by simp) (by omega) (Nat.le_refl _) ?_; intro a' c' w' hown' hg' hc' hI'; have B := Lib.hid ((Below.refl w.heap.size w).grown hg' (Nat.le_refl _) (fun q hq => by have h2 : (none : Option Nat) = some q := hq; cases h2)); replace hown' := Lib.hid hown')
        | (go_at_call 66; (with_reducible refine (hNw.out _ (hI1.out.next B.out)).mono ?_); rintro _ _ ⟨rfl, rfl⟩)
        | (go_at_call 51; (with_reducible refine (hEw.out _ (hI1.out.next B.out)).mono ?_); rintro _ _ ⟨rfl, rfl⟩))
      go_ret
      exact ⟨_, _, rfl, hI', B.out⟩
end Go.Proofs.Ytniknldeafmgaaa
