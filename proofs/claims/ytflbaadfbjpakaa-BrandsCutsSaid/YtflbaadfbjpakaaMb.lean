/- Layer 2: the mathematics of brands (M5 M6). -/
import Derived.Test.YtflbaadfbjpakaaMa
namespace Go.Proofs.Ytflbaadfbjpakaa
open Go Go.RowKit

/-- There is a corner without lines, that is not the first or the last one. -/
theorem bare_in {m : Nat} {L : List (Int × Int)} (h : Full ((m + 4 : Nat) : Int) L) : ∃ x : Nat, 0 < x ∧ x + 1 < m + 4 ∧ Bare L x := by
  have h0 : L ≠ [] := fun e => by subst e; have := h.2.2; simp at this; omega
  obtain ⟨q, hq, hm⟩ := short_one h0
  have l1 := h.1.1 q hq
  unfold LineP at l1
  refine ⟨(q.1 + 1).toNat, by omega, by omega, fun p hp => ?_⟩
  have l2 := h.1.1 p hp
  have c1 := h.1.2.1 p hp q hq
  have c2 := h.1.2.1 q hq p hp
  have := hm p hp
  unfold LineP at l2
  unfold CutP at c1 c2
  omega
def det (a b : Int × Int) : Int := a.1 * b.2 - a.2 * b.1
def addV (a b : Int × Int) : Int × Int := (a.1 + b.1, a.2 + b.2)
theorem det_self (a : Int × Int) : det a a = 0 := by unfold det; rw [Int.mul_comm]; omega
theorem det_addl (a b c : Int × Int) : det (addV a b) c = det a c + det b c := by unfold det addV; grind
theorem det_addr (a b c : Int × Int) : det c (addV a b) = det c a + det c b := by unfold det addV; grind
theorem det_swap (a b : Int × Int) : det a b = - det b a := by unfold det; grind
/-- Vectors at the corners: neighbours have the determinant 1, and the sum of both neighbours is a multiple of what lies between. -/
structure Vecs (n : Nat) (L : List (Int × Int)) (v : Nat → Int × Int) : Prop where
  next : ∀ i, i + 1 < n → det (v i) (v (i + 1)) = 1
  last : det (v 0) (v (n - 1)) = 1
  mid : ∀ i, 0 < i → i + 1 < n → (v (i - 1)).1 + (v (i + 1)).1 = nth (roundL n L) i * (v i).1 ∧ (v (i - 1)).2 + (v (i + 1)).2 = nth (roundL n L) i * (v i).2
  first : (v 1).1 - (v (n - 1)).1 = nth (roundL n L) 0 * (v 0).1 ∧ (v 1).2 - (v (n - 1)).2 = nth (roundL n L) 0 * (v 0).2
  final : (v (n - 2)).1 - (v 0).1 = nth (roundL n L) (n - 1) * (v (n - 1)).1 ∧ (v (n - 2)).2 - (v 0).2 = nth (roundL n L) (n - 1) * (v (n - 1)).2
  pos : ∀ i k, i < k → k < n → 1 ≤ det (v i) (v k)
  one : ∀ i k : Nat, i < k → k < n → (det (v i) (v k) = 1 ↔ Nr n L i k)
theorem vecs_three : Vecs 3 [] (fun i => if i = 0 then (1, 0) else if i = 1 then (1, 1) else (0, 1)) := by
  refine ⟨?_, by decide, ?_, by decide, by decide, ?_, ?_⟩
  · intro i hi
    have : i = 0 ∨ i = 1 := by omega
    rcases this with rfl | rfl <;> decide
  · intro i h1 h2
    obtain rfl : i = 1 := by omega
    decide
  · intro i k h1 h2
    have : (i = 0 ∧ k = 1) ∨ (i = 0 ∧ k = 2) ∨ (i = 1 ∧ k = 2) := by omega
    rcases this with ⟨rfl, rfl⟩ | ⟨rfl, rfl⟩ | ⟨rfl, rfl⟩ <;> decide
  · intro i k h1 h2
    have : (i = 0 ∧ k = 1) ∨ (i = 0 ∧ k = 2) ∨ (i = 1 ∧ k = 2) := by omega
    unfold Nr
    rcases this with ⟨rfl, rfl⟩ | ⟨rfl, rfl⟩ | ⟨rfl, rfl⟩ <;> simp [det]
theorem vecs_any : ∀ (m : Nat) {L : List (Int × Int)}, Full ((m + 3 : Nat) : Int) L → ∃ v, Vecs (m + 3) L v := by
  intro m
  induction m with
  | zero => intro L h; rw [full_three h]; exact ⟨_, vecs_three⟩
  | succ m ih =>
    intro L h
    rw [show m + 1 + 3 = m + 4 by omega] at h ⊢
    obtain ⟨x, hx0, hx1, hb⟩ := bare_in h
    have hear := (h.ear (by omega) hb (by omega) (by omega)).2
    rw [show ((m + 4 : Nat) : Int) - 1 = ((m + 3 : Nat) : Int) by omega] at hear
    obtain ⟨v, hv⟩ := ih hear
    have hr := fun c => round_cut h hb (by omega) (by omega) c
    rw [show m + 4 - 1 = m + 3 by omega] at hr
    have hex : ex ((m + 4 : Nat) : Int) x = ((x : Int) - 1, (x : Int) + 1) := by unfold ex; rw [if_neg (by omega), if_neg (by omega)]
    rw [hex] at hr
    simp only [] at hr
    generalize hrl : roundL (m + 4) L = r at hr
    generalize hrl' : roundL (m + 3) (cutB ((m + 4 : Nat) : Int) x L) = r' at hr
    have next := hv.next
    have last := hv.last
    have mid := hv.mid
    have first := hv.first
    have final := hv.final
    have pos := hv.pos
    rw [hrl'] at mid first final
    rw [show m + 3 - 1 = m + 2 by omega] at last first final
    rw [show m + 3 - 2 = m + 1 by omega] at final
    obtain ⟨u, hu⟩ : ∃ u : Nat → Int × Int, u = fun k => if k < x then v k else if k = x then addV (v (x - 1)) (v x) else v (k - 1) := ⟨_, rfl⟩
    have u1 : ∀ k, k < x → u k = v k := fun k hk => by rw [hu]; exact if_pos hk
    have u2 : u x = addV (v (x - 1)) (v x) := by rw [hu]; simp
    have u3 : ∀ k, x < k → u k = v (k - 1) := fun k hk => by rw [hu]; simp only []; rw [if_neg (by omega), if_neg (by omega)]
    have rx : nth r x = 1 := by rw [hr, if_pos rfl]
    have ra : nth r (x - 1) = nth r' (x - 1) + 1 := by rw [hr, if_neg (by omega), if_pos (by omega), show shN x (x - 1) = x - 1 by unfold shN; rw [if_pos (by omega)]]
    have rb : nth r (x + 1) = nth r' x + 1 := by rw [hr, if_neg (by omega), if_pos (by omega), show shN x (x + 1) = x by unfold shN; rw [if_neg (by omega)]; omega]
    have rl : ∀ c, c + 1 < x → nth r c = nth r' c := fun c hc => by rw [hr, if_neg (by omega), if_neg (by omega), show shN x c = c by unfold shN; rw [if_pos (by omega)], Int.add_zero]
    have rg : ∀ c, x + 1 < c → nth r c = nth r' (c - 1) := fun c hc => by rw [hr, if_neg (by omega), if_neg (by omega), show shN x c = c - 1 by unfold shN; rw [if_neg (by omega)], Int.add_zero]
    have s1 : ∀ k, k ≠ x → u k = v (shN x k) := fun k hk => by
      unfold shN
      split
      · exact u1 k (by omega)
      · exact u3 k (by omega)
    refine ⟨u, ?_, ?_, ?_, ?_, ?_, ?_, ?_⟩
    · intro i hi
      by_cases c1 : i + 1 < x
      · rw [u1 i (by omega), u1 _ c1]; exact next i (by omega)
      · by_cases c2 : i + 1 = x
        · subst c2
          rw [u1 i (by omega), u2, det_addr, Nat.add_sub_cancel, det_self, next i (by omega)]
          rfl
        · by_cases c3 : i = x
          · subst c3
            have := next (i - 1) (by omega)
            rw [show i - 1 + 1 = i by omega] at this
            rw [u2, u3 _ (by omega), det_addl, Nat.add_sub_cancel, det_self, this]
            rfl
          · have := next (i - 1) (by omega)
            rw [show i - 1 + 1 = i by omega] at this
            rw [u3 i (by omega), u3 _ (by omega), Nat.add_sub_cancel]
            exact this
    · rw [u1 0 hx0, u3 _ (by omega), show m + 4 - 1 - 1 = m + 2 by omega]
      exact last
    · intro i hi0 hi1
      rw [hrl]
      by_cases c1 : i + 1 < x
      · rw [u1 (i - 1) (by omega), u1 (i + 1) c1, u1 i (by omega), rl i c1]
        exact mid i hi0 (by omega)
      · by_cases c2 : i + 1 = x
        · have hm := mid i hi0 (by omega)
          subst c2
          rw [Nat.add_sub_cancel] at ra u2
          rw [u1 (i - 1) (by omega), u1 i (by omega), u2, ra]
          unfold addV
          simp only []
          constructor <;> grind
        · by_cases c3 : i = x
          · subst c3
            rw [u1 (i - 1) (by omega), u2, u3 (i + 1) (by omega), rx, Nat.add_sub_cancel]
            unfold addV
            simp only []
            constructor <;> omega
          · by_cases c4 : i = x + 1
            · subst c4
              have hm := mid x hx0 (by omega)
              rw [Nat.add_sub_cancel, u2, u3 (x + 1) (by omega), u3 (x + 1 + 1) (by omega), rb, Nat.add_sub_cancel, Nat.add_sub_cancel]
              unfold addV
              simp only []
              constructor <;> grind
            · have hm := mid (i - 1) (by omega) (by omega)
              rw [u3 (i - 1) (by omega), u3 (i + 1) (by omega), u3 i (by omega), rg i (by omega), Nat.add_sub_cancel]
              rw [show i - 1 + 1 = i by omega] at hm
              exact hm
    · rw [hrl, u1 0 hx0, u3 (m + 4 - 1) (by omega), show m + 4 - 1 - 1 = m + 2 by omega]
      by_cases c1 : 1 < x
      · rw [u1 1 c1, rl 0 (by omega)]; exact first
      · obtain rfl : x = 1 := by omega
        rw [Nat.sub_self] at ra u2
        rw [u2, ra]
        unfold addV
        simp only []
        constructor <;> grind
    · rw [hrl, u3 (m + 4 - 1) (by omega), u1 0 hx0, show m + 4 - 1 - 1 = m + 2 by omega]
      by_cases c1 : x = m + 2
      · subst c1
        rw [show m + 2 - 1 = m + 1 by omega] at u2
        rw [show m + 4 - 2 = m + 2 by omega, u2, show m + 4 - 1 = m + 2 + 1 by omega, rb]
        unfold addV
        simp only []
        constructor <;> grind
      · rw [u3 (m + 4 - 2) (by omega), rg _ (by omega), show m + 4 - 2 - 1 = m + 1 by omega, show m + 4 - 1 - 1 = m + 2 by omega]
        exact final
    · intro i k hik hk
      by_cases c1 : k < x
      · rw [u1 i (by omega), u1 k c1]; exact pos i k hik (by omega)
      · by_cases c2 : k = x
        · subst c2
          rw [u1 i hik, u2, det_addr]
          have p1 := pos i k hik (by omega)
          by_cases e : i = k - 1
          · rw [← e, det_self]; omega
          · have := pos i (k - 1) (by omega) (by omega); omega
        · rw [u3 k (by omega)]
          by_cases c3 : i < x
          · rw [u1 i c3]; exact pos i (k - 1) (by omega) (by omega)
          · by_cases c4 : i = x
            · subst c4
              rw [u2, det_addl]
              have p1 := pos (i - 1) (k - 1) (by omega) (by omega)
              by_cases e : i = k - 1
              · rw [← e, det_self]; rw [← e] at p1; omega
              · have := pos i (k - 1) (by omega) (by omega); omega
            · rw [u3 i (by omega)]; exact pos (i - 1) (k - 1) (by omega) (by omega)
    · intro i k hik hk
      have hnx : ∀ j : Nat, j < m + 4 → j ≠ x → (Nr ((m + 4 : Nat) : Int) L x j ↔ j + 1 = x ∨ j = x + 1) := fun j hj hjx => by
        rw [nr_x hb (by omega) (by omega) (by omega) (by omega) (by omega) (by omega), hex]
        simp only []
        omega
      by_cases c2 : k = x
      · subst c2
        have hN := hnx i (by omega) (by omega)
        rw [u1 i hik, u2, det_addr]
        have p1 := pos i k hik (by omega)
        rw [show Nr ((m + 4 : Nat) : Int) L i k ↔ Nr ((m + 4 : Nat) : Int) L k i from ⟨Nr.symm, Nr.symm⟩, hN]
        by_cases e : i = k - 1
        · have := next i (by omega)
          rw [show i + 1 = k by omega] at this
          rw [← e, det_self, this]
          omega
        · have := pos i (k - 1) (by omega) (by omega); omega
      · by_cases c4 : i = x
        · subst c4
          have hN := hnx k (by omega) (by omega)
          rw [u2, u3 k (by omega), det_addl, hN]
          have p1 := pos (i - 1) (k - 1) (by omega) (by omega)
          by_cases e : i = k - 1
          · have := next (i - 1) (by omega)
            rw [show i - 1 + 1 = i by omega] at this
            rw [← e, det_self, this]
            omega
          · have := pos i (k - 1) (by omega) (by omega); omega
        · rw [s1 i c4, s1 k c2, hv.one (shN x i) (shN x k) (by unfold shN; split <;> split <;> omega) (by unfold shN; split <;> omega), shN_cast c4, shN_cast c2, nr_cut h hb (by omega) (by omega) (by omega) (by omega) (by omega) (by omega) (by omega) (by omega) (by omega) (by omega), show ((m + 4 : Nat) : Int) - 1 = ((m + 3 : Nat) : Int) by omega]
/-- A pair of corners, by their labels. -/
def lab (C : List Int) (q : Int × Int) : Int × Int := (min (nth C q.1.toNat) (nth C q.2.toNat), max (nth C q.1.toNat) (nth C q.2.toNat))
theorem lab_mm (C : List Int) (a b : Nat) : lab C (min (a : Int) (b : Int), max (a : Int) (b : Int)) = (min (nth C a) (nth C b), max (nth C a) (nth C b)) := by
  unfold lab
  rcases Nat.le_total a b with h | h
  · have e1 : min (a : Int) (b : Int) = a := by omega
    have e2 : max (a : Int) (b : Int) = b := by omega
    rw [e1, e2]
    simp only [Int.toNat_natCast]
  · have e1 : min (a : Int) (b : Int) = b := by omega
    have e2 : max (a : Int) (b : Int) = a := by omega
    rw [e1, e2]
    simp only [Int.toNat_natCast]
    exact Prod.ext (by simp only []; omega) (by simp only []; omega)
theorem nth_upTo {n i : Nat} (h : i < n) : nth (upTo n) i = i := by simp [nth, upTo, h]
theorem nth_erase_upTo {n c a : Nat} (hc : c < n) (ha : a + 1 < n) : nth ((upTo n).eraseIdx c) a = (liN c a : Nat) := by
  rw [nth_eraseIdx (by rw [upTo_length]; exact hc)]
  unfold liN
  split
  · exact nth_upTo (by omega)
  · exact nth_upTo (by omega)
theorem nth_erase_li {C : List Int} {c a : Nat} (hc : c < C.length) : nth (C.eraseIdx c) a = nth C (liN c a) := by
  rw [nth_eraseIdx hc]
  unfold liN
  split <;> rfl
theorem liN_lt {n c a : Nat} (ha : a + 1 < n) : liN c a < n := by unfold liN; split <;> omega
/-- Both numbers are corners of a polygon of n corners. -/
def InN (n : Nat) (q : Int × Int) : Prop := 0 ≤ q.1 ∧ q.1 < n ∧ 0 ≤ q.2 ∧ q.2 < n
theorem lab_line {C : List Int} {c : Nat} (hc : c < C.length) : lab C (earLine (upTo C.length) c) = earLine C c := by
  unfold earLine
  rw [upTo_length]
  have ha : (c + C.length - 1) % C.length < C.length := Nat.mod_lt _ (by omega)
  have hb : (c + 1) % C.length < C.length := Nat.mod_lt _ (by omega)
  rw [nth_upTo ha, nth_upTo hb]
  exact lab_mm C _ _
theorem lab_lab {C : List Int} {c : Nat} (hc : c < C.length) {q : Int × Int} (hq : InN (C.length - 1) q) : lab C (lab ((upTo C.length).eraseIdx c) q) = lab (C.eraseIdx c) q := by
  obtain ⟨a, b⟩ := q
  unfold InN at hq
  simp only [] at hq
  obtain ⟨x, rfl⟩ : ∃ x : Nat, a = x := ⟨a.toNat, by omega⟩
  obtain ⟨y, rfl⟩ : ∃ y : Nat, b = y := ⟨b.toNat, by omega⟩
  have e : lab ((upTo C.length).eraseIdx c) ((x : Int), (y : Int)) = (min ((liN c x : Nat) : Int) ((liN c y : Nat) : Int), max ((liN c x : Nat) : Int) ((liN c y : Nat) : Int)) := by
    unfold lab
    simp only [Int.toNat_natCast]
    rw [nth_erase_upTo hc (by omega), nth_erase_upTo hc (by omega)]
  rw [e, lab_mm]
  unfold lab
  simp only [Int.toNat_natCast]
  rw [nth_erase_li hc, nth_erase_li hc]
theorem lab_in {C : List Int} {n : Nat} (hC : ∀ i, i < C.length → 0 ≤ nth C i ∧ nth C i < n) {q : Int × Int} (hq : InN C.length q) : InN n (lab C q) := by
  unfold InN at *
  have h1 := hC q.1.toNat (by omega)
  have h2 := hC q.2.toNat (by omega)
  unfold lab
  simp only []
  omega
theorem earLine_in {n c : Nat} (hc : c < n) : InN n (earLine (upTo n) c) := by
  have ha : (c + n - 1) % n < n := Nat.mod_lt _ (by omega)
  have hb : (c + 1) % n < n := Nat.mod_lt _ (by omega)
  unfold InN earLine
  rw [upTo_length, nth_upTo ha, nth_upTo hb]
  simp only []
  omega
/-- The run with all labels, out of the run with numbers. -/
def relab (C : List Int) (S : List (Int × Int)) (o : Option (List Int × List (Int × Int))) : Option (List Int × List (Int × Int)) := o.map fun p => (p.1, S ++ p.2.map (lab C))
theorem earOf_lt {R : List Int} {c : Nat} (h : earOf R = some c) : c < R.length ∧ EarP R c ∧ ∀ j, j < c → ¬ EarP R j := by
  unfold earOf at h
  rw [List.find?_range_eq_some] at h
  exact ⟨List.mem_range.1 h.2.1, of_decide_eq_true h.1, fun j hj => by simpa using h.2.2 j hj⟩
theorem run_in : ∀ (f : Nat) (R C : List Int) (S : List (Int × Int)) (n : Nat), R.length = C.length → (∀ i, i < C.length → 0 ≤ nth C i ∧ nth C i < n) → (∀ q ∈ S, InN n q) → ∀ R' S', runE f R C S = some (R', S') → ∀ q ∈ S', InN n q := by
  intro f
  induction f with
  | zero => intro R C S n _ _ _ R' S' h; cases h
  | succ f ih =>
    intro R C S n hl hC hS R' S' h
    rw [runE] at h
    split at h
    · cases h; exact hS
    · split at h
      · cases h
      · rename_i c hc
        have hcl := (earOf_lt hc).1
        refine ih (cutL R c) (C.eraseIdx c) _ n ?_ ?_ ?_ R' S' h
        · rw [cutL_length hcl, List.length_eraseIdx_of_lt (by omega), hl]
        · intro i hi
          rw [List.length_eraseIdx_of_lt (by omega)] at hi
          rw [nth_erase_li (by omega)]
          exact hC _ (liN_lt (by omega))
        · intro q hq
          rcases List.mem_append.1 hq with hq | hq
          · exact hS q hq
          · rw [List.mem_singleton] at hq
            subst hq
            have := lab_in (C := C) hC (earLine_in (n := C.length) (c := c) (by omega))
            rwa [lab_line (by omega)] at this
theorem runE_lab : ∀ (f : Nat) (R C : List Int) (S : List (Int × Int)), R.length = C.length → runE f R C S = relab C S (runE f R (upTo R.length) []) := by
  intro f
  induction f with
  | zero => intro R C S _; rfl
  | succ f ih =>
    intro R C S hl
    rw [runE, runE, upTo_length, ← hl]
    split
    · simp [relab]
    · cases hc : earOf R with
      | none => rfl
      | some c =>
        have hcl := (earOf_lt hc).1
        simp only []
        have e1 : (cutL R c).length = (C.eraseIdx c).length := by rw [cutL_length hcl, List.length_eraseIdx_of_lt (by omega), hl]
        have e2 : (cutL R c).length = ((upTo R.length).eraseIdx c).length := by rw [cutL_length hcl, List.length_eraseIdx_of_lt (by rw [upTo_length]; exact hcl), upTo_length]
        rw [ih _ _ (S ++ [earLine C c]) e1, ih _ _ ([] ++ [earLine (upTo R.length) c]) e2]
        cases hr : runE f (cutL R c) (upTo (cutL R c).length) [] with
        | none => rfl
        | some p =>
          obtain ⟨R', S0⟩ := p
          have hin := run_in f (cutL R c) (upTo (cutL R c).length) [] (cutL R c).length (by rw [upTo_length]) (fun i hi => by rw [upTo_length] at hi; rw [nth_upTo hi]; omega) (fun q hq => by simp at hq) R' S0 hr
          simp only [relab, Option.map_some, List.nil_append, List.map_cons, List.map_map, List.append_assoc, List.cons_append]
          rw [hl, lab_line (by omega)]
          congr 4
          apply List.map_congr_left
          intro q hq
          rw [cutL_length hcl, hl] at hin
          exact (lab_lab (by omega) (hin q hq)).symm
/-- One step of the run with numbers. -/
theorem run_step {f : Nat} {R : List Int} {c : Nat} (h4 : 4 ≤ R.length) (hc : earOf R = some c) :
    runE (f + 1) R (upTo R.length) [] = relab ((upTo R.length).eraseIdx c) [earLine (upTo R.length) c] (runE f (cutL R c) (upTo (cutL R c).length) []) := by
  have hcl := (earOf_lt hc).1
  rw [runE, if_neg (by rw [upTo_length]; omega), hc]
  simp only []
  rw [runE_lab f (cutL R c) _ _ (by rw [cutL_length hcl, List.length_eraseIdx_of_lt (by rw [upTo_length]; exact hcl), upTo_length])]
  rfl
theorem earLine_ex {n c : Nat} (hn : 4 ≤ n) (hc : c < n) : earLine (upTo n) c = ex n c := by
  have ha : (c + n - 1) % n < n := Nat.mod_lt _ (by omega)
  have hb : (c + 1) % n < n := Nat.mod_lt _ (by omega)
  unfold earLine ex
  rw [upTo_length, nth_upTo ha, nth_upTo hb]
  have ea : (c + n - 1) % n = if c = 0 then n - 1 else c - 1 := by rw [mod_small (by omega)]; split <;> split <;> omega
  have eb : (c + 1) % n = if c = n - 1 then 0 else c + 1 := by rw [mod_small (by omega)]; split <;> split <;> omega
  rw [ea, eb]
  by_cases h0 : c = 0
  · rw [if_pos h0, if_neg (by omega), if_pos (by omega)]
    exact Prod.ext (by simp only []; omega) (by simp only []; omega)
  · rw [if_neg h0, if_neg (show ¬ (c : Int) = 0 by omega)]
    by_cases h1 : c = n - 1
    · rw [if_pos h1, if_pos (by omega)]
      exact Prod.ext (by simp only []; omega) (by simp only []; omega)
    · rw [if_neg h1, if_neg (by omega)]
      exact Prod.ext (by simp only []; omega) (by simp only []; omega)
theorem lab_li {n c : Nat} (hc : c < n) {q : Int × Int} (hq : InN (n - 1) q) (hlt : q.1 < q.2) : lab ((upTo n).eraseIdx c) q = liP c q := by
  obtain ⟨a, b⟩ := q
  unfold InN at hq
  simp only [] at hq hlt
  obtain ⟨x, rfl⟩ : ∃ x : Nat, a = x := ⟨a.toNat, by omega⟩
  obtain ⟨y, rfl⟩ : ∃ y : Nat, b = y := ⟨b.toNat, by omega⟩
  unfold lab liP
  simp only [Int.toNat_natCast]
  rw [nth_erase_upTo hc (by omega), nth_erase_upTo hc (by omega), liN_cast, liN_cast]
  have := (li_lt (c : Int) x y).2 hlt
  exact Prod.ext (by simp only []; omega) (by simp only []; omega)
theorem full_in {n : Nat} {S : List (Int × Int)} (h : Full n S) {q : Int × Int} (hq : q ∈ S) : InN n q ∧ q.1 < q.2 := by
  have := h.1.1 q hq
  unfold LineP at this
  unfold InN
  omega
/-- What is cut is told by what is left. -/
theorem cutL_inj {A B : List Int} {c : Nat} (hl : A.length = B.length) (h3 : 3 ≤ A.length) (hc : c < A.length) (h1 : nth A c = nth B c) (h : cutL A c = cutL B c) : A = B := by
  have key : ∀ R : List Int, c < R.length → 3 ≤ R.length → ∀ i, i + 1 < R.length → nth (cutL R c) i = nth R (liN c i) - if liN c i = (c + R.length - 1) % R.length ∨ liN c i = (c + 1) % R.length then 1 else 0 := by
    intro R hc h3 i hi
    unfold cutL
    simp only []
    generalize hn : R.length = n at *
    have ea : (c + n - 1) % n = if c = 0 then n - 1 else c - 1 := by rw [mod_small (by omega)]; split <;> split <;> omega
    have eb : (c + 1) % n = if c = n - 1 then 0 else c + 1 := by rw [mod_small (by omega)]; split <;> split <;> omega
    have hab : (c + n - 1) % n ≠ (c + 1) % n := by rw [ea, eb]; split <;> split <;> omega
    have ha : (c + n - 1) % n < n := Nat.mod_lt _ (by omega)
    have hb' : (c + 1) % n < n := Nat.mod_lt _ (by omega)
    have inner : nth (R.set ((c + n - 1) % n) (nth R ((c + n - 1) % n) - 1)) ((c + 1) % n) = nth R ((c + 1) % n) := by
      rw [nth_set (by omega), if_neg (fun e => hab e.symm)]
    rw [nth_erase_li (by simp; omega), inner, nth_set (by simp; omega), nth_set (by omega)]
    by_cases j1 : liN c i = (c + 1) % n
    · rw [if_pos j1, if_pos (.inr j1), j1]
    · rw [if_neg j1]
      by_cases j2 : liN c i = (c + n - 1) % n
      · rw [if_pos j2, if_pos (.inl j2), j2]
      · rw [if_neg j2, if_neg (by omega)]; omega
  refine ext_nth hl fun j hj => ?_
  by_cases hjc : j = c
  · subst hjc; exact h1
  · have hs : shN c j + 1 < A.length := by unfold shN; split <;> omega
    have k1 := key A hc h3 (shN c j) hs
    have k2 := key B (by omega) (by omega) (shN c j) (by omega)
    rw [liN_shN hjc] at k1 k2
    rw [← hl] at k2
    rw [h, k2] at k1
    omega
theorem full_perm {n : Int} {L M : List (Int × Int)} (h : Full n L) (hp : M.Perm L) : Full n M :=
  ⟨⟨fun q hq => h.1.1 q (hp.mem_iff.1 hq), fun p hp' q hq => h.1.2.1 p (hp.mem_iff.1 hp') q (hp.mem_iff.1 hq), hp.nodup_iff.2 h.1.2.2⟩, h.2.1, by rw [hp.length_eq]; exact h.2.2⟩
theorem perm_cut {n : Int} {x : Int} {L S : List (Int × Int)} (hS : ∀ q ∈ S, liP x q ≠ ex n x) (hnd : S.Nodup) (hL : L.Nodup) (hp : L.Perm (ex n x :: S.map (liP x))) (hb : Bare L x) : (cutB n x L).Perm S := by
  have h1 : (cutB n x L).Nodup := by
    unfold cutB
    refine nodup_map_on (hL.filter _) fun a ha b hb' e => ?_
    have h1 := hb a (List.mem_filter.1 ha).1
    have h2 := hb b (List.mem_filter.1 hb').1
    rw [← liP_shP h1.1 h1.2, ← liP_shP h2.1 h2.2, e]
  refine (List.perm_ext_iff_of_nodup h1 hnd).2 fun q => ?_
  rw [mem_cutB hb, hp.mem_iff, List.mem_cons, List.mem_map]
  constructor
  · rintro ⟨h | ⟨p, hp', e⟩, hne⟩
    · exact absurd h hne
    · rw [← shP_liP x q, ← e, shP_liP]; exact hp'
  · intro hq
    exact ⟨.inr ⟨q, hq, rfl⟩, hS q hq⟩
theorem perm_ear {n x : Int} {L : List (Int × Int)} (hf : Lns n L) (hb : Bare L x) (he : ex n x ∈ L) (h0 : 0 ≤ x) (hx : x < n) : L.Perm (ex n x :: (cutB n x L).map (liP x)) := by
  have hc := cutB_lns hf hb h0 hx
  refine (List.perm_ext_iff_of_nodup hf.2.2 ?_).2 fun q => ?_
  · rw [List.nodup_cons]
    refine ⟨fun hm => ?_, nodup_map_on hc.2.2 fun a _ b _ e => by rw [← shP_liP x a, ← shP_liP x b, e]⟩
    obtain ⟨p, hp, e⟩ := List.mem_map.1 hm
    exact ((mem_cutB hb).1 hp).2 e
  · rw [List.mem_cons, List.mem_map]
    constructor
    · intro hq
      by_cases e : q = ex n x
      · exact .inl e
      · have := hb q hq
        exact .inr ⟨shP x q, (mem_cutB hb).2 ⟨by rw [liP_shP this.1 this.2]; exact hq, by rw [liP_shP this.1 this.2]; exact e⟩, liP_shP this.1 this.2⟩
    · rintro (rfl | ⟨p, hp, rfl⟩)
      · exact he
      · exact ((mem_cutB hb).1 hp).1
theorem maxL_one {xs : List Int} (h : Tame xs) (h0 : 1 ≤ xs.length) : maxL xs = 1 ↔ ∀ i, i < xs.length → nth xs i = 1 := by
  unfold maxL
  rw [maxTo_one (fun i hi => (h i (by omega)).1)]
  exact ⟨fun hh i hi => hh i (by omega), fun hh i hi => hh i (by omega)⟩
/-- What comes of a list is a brand with this list. -/
theorem run_brand : ∀ (m : Nat) (f : Nat) (R : List Int), R.length = m + 3 → Tame R → ∀ R' S, runE f R (upTo R.length) [] = some (R', S) → maxL R' = 1 → ∀ M : List (Int × Int), M.Perm S → Full ((m + 3 : Nat) : Int) M ∧ roundL (m + 3) M = R := by
  intro m
  induction m with
  | zero =>
    intro f R hl hT R' S h hmx M hM
    cases f with
    | zero => cases h
    | succ f =>
      rw [runE, if_pos (by rw [upTo_length]; omega)] at h
      simp only [Option.some.injEq, Prod.mk.injEq] at h
      obtain ⟨rfl, rfl⟩ := h
      have e : M = [] := List.Perm.eq_nil hM
      subst e
      have h1 := (maxL_one hT (by omega)).1 hmx
      refine ⟨⟨⟨by simp, by simp, List.nodup_nil⟩, by omega, by simp⟩, ?_⟩
      refine ext_nth (by rw [hl]; decide) fun i hi => ?_
      have hi3 : i < 3 := by have : (roundL (0 + 3) []).length = 3 := by decide
                             omega
      rw [h1 i (by omega)]
      have : i = 0 ∨ i = 1 ∨ i = 2 := by omega
      rcases this with rfl | rfl | rfl <;> decide
  | succ m ih =>
    intro f R hl hT R' S h hmx M hM
    cases f with
    | zero => cases h
    | succ f =>
      cases hc : earOf R with
      | none => rw [runE, if_neg (by rw [upTo_length]; omega), hc] at h; cases h
      | some c =>
        obtain ⟨hcl, hear, _⟩ := earOf_lt hc
        rw [run_step (by omega) hc] at h
        have hcut := cutL_length hcl
        rw [hl, show m + 1 + 3 - 1 = m + 3 by omega] at hcut
        have hT' := cutL_tame hT hcl hear (by omega)
        cases hr : runE f (cutL R c) (upTo (cutL R c).length) [] with
        | none => rw [hr] at h; cases h
        | some p =>
          obtain ⟨R1, S0⟩ := p
          rw [hr] at h
          simp only [relab, Option.map_some, Option.some.injEq, Prod.mk.injEq] at h
          obtain ⟨rfl, hS⟩ := h
          have hS0 := (ih f (cutL R c) hcut hT' R1 S0 hr hmx S0 (List.Perm.refl _)).1
          have hmap : S0.map (lab ((upTo R.length).eraseIdx c)) = S0.map (liP c) := by
            apply List.map_congr_left
            intro q hq
            have := full_in hS0 hq
            exact lab_li hcl (by rw [hl]; exact this.1) this.2
          rw [hmap, earLine_ex (by omega) hcl, hl] at hS
          have hp : M.Perm (ex ((m + 1 + 3 : Nat) : Int) c :: S0.map (liP c)) := by rw [← hS] at hM; exact hM
          have hS0' : Full (((m + 1 + 3 : Nat) : Int) - 1) S0 := by rw [show ((m + 1 + 3 : Nat) : Int) - 1 = ((m + 3 : Nat) : Int) by omega]; exact hS0
          obtain ⟨hfull, hbare⟩ := glue_full hS0' (by omega) (by omega) (by omega) hp
          have hpc := perm_cut (n := ((m + 1 + 3 : Nat) : Int)) (x := (c : Int)) (fun q hq => (liP_line (hS0'.1.1 q hq) (by omega) (by omega)).2) hS0.1.2.2 hfull.1.2.2 hp hbare
          have hround := (ih f (cutL R c) hcut hT' R1 S0 hr hmx _ hpc).2
          have hcr := cutL_round hfull hbare (by omega) (show c < m + 1 + 3 by omega)
          rw [show m + 1 + 3 - 1 = m + 3 by omega] at hcr
          refine ⟨hfull, ?_⟩
          have hlen := (nth_round hfull).1
          refine cutL_inj (by omega) (by omega) (c := c) (by omega) ?_ (by rw [hcr, hround])
          rw [round_cut hfull hbare (by omega) (by omega), if_pos rfl, hear.1]
/-- The list of a brand gives its lines back. -/
theorem run_back : ∀ (m : Nat) (f : Nat) {L : List (Int × Int)}, Full ((m + 3 : Nat) : Int) L → m < f → ∃ R' S, runE f (roundL (m + 3) L) (upTo (m + 3)) [] = some (R', S) ∧ S.Perm L ∧ maxL R' = 1 := by
  intro m
  induction m with
  | zero =>
    intro f L h hf
    rw [full_three h]
    obtain ⟨g, rfl⟩ : ∃ g, f = g + 1 := ⟨f - 1, by omega⟩
    exact ⟨_, [], by rw [runE, if_pos (by decide)], List.Perm.refl _, by decide⟩
  | succ m ih =>
    intro f L h hf
    obtain ⟨g, rfl⟩ : ∃ g, f = g + 1 := ⟨f - 1, by omega⟩
    have hlen := (nth_round h).1
    have hbd := round_bds (m + 1) h
    obtain ⟨x, h0, hx, hb⟩ := bare_one h.1 (by omega)
    obtain ⟨k, rfl⟩ : ∃ k : Nat, x = k := ⟨x.toNat, by omega⟩
    have hear : ∀ k : Nat, k < m + 1 + 3 → Bare L k → EarP (roundL (m + 1 + 3) L) k := by
      intro k hk hb
      have hf' := (h.ear (x := (k : Int)) (by omega) hb (by omega) (by omega)).2
      rw [show ((m + 1 + 3 : Nat) : Int) - 1 = ((m + 3 : Nat) : Int) by omega] at hf'
      have hbd' := round_bds m hf'
      have hrc := fun c => round_cut h hb (by omega) hk c
      rw [show m + 1 + 3 - 1 = m + 3 by omega] at hrc
      obtain ⟨p, q, epq, hpq⟩ := ex_nat (n := m + 1 + 3) (x := k) (by omega) hk
      rw [epq] at hrc
      simp only [] at hrc
      have two : ∀ j : Nat, j < m + 1 + 3 → j ≠ k → (j = p ∨ j = q) → 1 < nth (roundL (m + 1 + 3) L) j := by
        intro j hj hjk hjpq
        rw [hrc, if_neg hjk, if_pos (by omega)]
        have := (hbd' (shN k j) (by unfold shN; split <;> omega)).1
        omega
      have ea : (k + (m + 1 + 3) - 1) % (m + 1 + 3) = if k = 0 then m + 3 else k - 1 := by rw [mod_small (by omega)]; split <;> split <;> omega
      have eb : (k + 1) % (m + 1 + 3) = if k = m + 3 then 0 else k + 1 := by rw [mod_small (by omega)]; split <;> split <;> omega
      refine ⟨by rw [hrc, if_pos rfl], ?_, ?_⟩
      · rw [hlen]
        refine two _ (Nat.mod_lt _ (by omega)) (by rw [ea]; split <;> omega) ?_
        rw [ea]
        rcases hpq with ⟨c1, c2, c3, _⟩ | ⟨c1, c2, c3, _⟩ | ⟨c0, c1, c2, c3, _⟩ <;> split <;> omega
      · rw [hlen]
        refine two _ (Nat.mod_lt _ (by omega)) (by rw [eb]; split <;> omega) ?_
        rw [eb]
        rcases hpq with ⟨c1, c2, c3, _⟩ | ⟨c1, c2, c3, _⟩ | ⟨c0, c1, c2, c3, _⟩ <;> split <;> omega
    cases hc : earOf (roundL (m + 1 + 3) L) with
    | none =>
      have := List.find?_eq_none.1 hc k (List.mem_range.2 (by omega))
      exact absurd (hear k (by omega) hb) (by simpa using this)
    | some c =>
      obtain ⟨hcl, hec, _⟩ := earOf_lt hc
      rw [hlen] at hcl
      have hbc := bare_of_one (m + 1) h c hcl hec.1
      have hE := h.ear (x := (c : Int)) (by omega) hbc (by omega) (by omega)
      have hf' := hE.2
      rw [show ((m + 1 + 3 : Nat) : Int) - 1 = ((m + 3 : Nat) : Int) by omega] at hf'
      obtain ⟨R', S, hr, hS, hmx⟩ := ih g hf' (by omega)
      have hcr := cutL_round h hbc (by omega) hcl
      rw [show m + 1 + 3 - 1 = m + 3 by omega] at hcr
      have hstep := run_step (f := g) (R := roundL (m + 1 + 3) L) (by omega) hc
      rw [hlen, hcr, (nth_round hf').1, hr] at hstep
      simp only [relab, Option.map_some] at hstep
      have hS0 := full_perm hf' hS
      have hmap : S.map (lab ((upTo (m + 1 + 3)).eraseIdx c)) = S.map (liP c) := by
        apply List.map_congr_left
        intro q hq
        have := full_in hS0 hq
        exact lab_li hcl this.1 this.2
      rw [hmap, earLine_ex (by omega) hcl] at hstep
      refine ⟨R', _, hstep, ?_, hmx⟩
      exact ((hS.map _).cons _).trans (perm_ear h.1 hbc hE.1 (by omega) (by omega)).symm
end Go.Proofs.Ytflbaadfbjpakaa
