/- Layer 2: sorted lists of pairs; cells of pairs. -/
import Derived.Test.YtflbaadfbjpakaaBq
namespace Go.Proofs.Ytflbaadfbjpakaa
open Go Go.RowKit

/-- Not behind. -/
def LeP (p q : Int × Int) : Prop := ¬ LexP q p
theorem LeP.trans {a b c : Int × Int} (h : LeP a b) (k : LeP b c) : LeP a c := by unfold LeP LexP at *; omega
theorem LeP.anti {a b : Int × Int} (h : LeP a b) (k : LeP b a) : a = b := by
  unfold LeP LexP at *
  exact Prod.ext (by omega) (by omega)
theorem LexP.le {a b : Int × Int} (h : LexP a b) : LeP a b := by unfold LeP LexP at *; omega
/-- In order. -/
def SortedP (L : List (Int × Int)) : Prop := ∀ i j, i < j → j < L.length → LeP (pth L i) (pth L j)
theorem pth_get {L : List (Int × Int)} {i : Nat} (h : i < L.length) : pth L i = L[i] := by simp [pth, h]
theorem sortedP_pair {L : List (Int × Int)} : SortedP L ↔ L.Pairwise LeP := by
  rw [List.pairwise_iff_getElem]
  constructor
  · intro h i j hi hj hij
    have := h i j hij hj
    rwa [pth_get hi, pth_get hj] at this
  · intro h i j hij hj
    rw [pth_get (by omega), pth_get hj]
    exact h i j (by omega) hj hij
/-- There is one list in order. -/
theorem sorted_one {L M : List (Int × Int)} (hL : SortedP L) (hM : SortedP M) (h : L.Perm M) : L = M :=
  h.eq_of_pairwise (fun _ _ _ _ h1 h2 => h1.anti h2) (sortedP_pair.1 hL) (sortedP_pair.1 hM)
theorem pth_set {L : List (Int × Int)} {i k : Nat} {v : Int × Int} (hi : i < L.length) : pth (L.set i v) k = if k = i then v else pth L k := by
  unfold pth
  rw [List.getD_eq_getElem?_getD, List.getD_eq_getElem?_getD, List.getElem?_set]
  by_cases h : i = k
  · subst h; simp [hi]
  · rw [if_neg h, if_neg (fun e => h e.symm)]
/-- Two neighbours change places. -/
def swapL (L : List (Int × Int)) (j : Nat) : List (Int × Int) := (L.set j (pth L (j - 1))).set (j - 1) (pth L j)
theorem swapL_length (L : List (Int × Int)) (j : Nat) : (swapL L j).length = L.length := by simp [swapL]
theorem swapL_perm {L : List (Int × Int)} {j : Nat} (hj : j < L.length) : (swapL L j).Perm L := by
  unfold swapL
  rw [pth_get hj, pth_get (by omega)]
  exact List.set_set_perm hj (by omega)
theorem swapL_get {L : List (Int × Int)} {j k : Nat} (hj : j < L.length) (h0 : 0 < j) : pth (swapL L j) k = if k = j - 1 then pth L j else if k = j then pth L (j - 1) else pth L k := by
  unfold swapL
  rw [pth_set (by simp; omega), pth_set hj]
/-- In order up to i, but for what stands at j. -/
def Almost (L : List (Int × Int)) (i j : Nat) : Prop := ∀ x y, x < y → y ≤ i → y ≠ j → LeP (pth L x) (pth L y)
theorem almost_swap {L : List (Int × Int)} {i j : Nat} (h : Almost L i j) (hi : i < L.length) (hj : j ≤ i) (h0 : 0 < j) (hlt : LexP (pth L j) (pth L (j - 1))) : Almost (swapL L j) i (j - 1) := by
  intro x y hxy hy hne
  rw [swapL_get (by omega) h0, swapL_get (by omega) h0, if_neg hne]
  by_cases e1 : y = j
  · subst e1
    rw [if_pos rfl]
    by_cases e2 : x = y - 1
    · rw [if_pos e2]; exact hlt.le
    · rw [if_neg e2, if_neg (by omega)]
      exact h x (y - 1) (by omega) (by omega) (by omega)
  · rw [if_neg e1]
    by_cases e2 : x = j - 1
    · rw [if_pos e2]; exact h j y (by omega) hy e1
    · rw [if_neg e2]
      by_cases e3 : x = j
      · rw [if_pos e3]; exact h (j - 1) y (by omega) hy e1
      · rw [if_neg e3]; exact h x y hxy hy e1
theorem almost_done {L : List (Int × Int)} {i j : Nat} (h : Almost L i j) (hs : j = 0 ∨ ¬ LexP (pth L j) (pth L (j - 1))) : ∀ x y, x < y → y ≤ i → LeP (pth L x) (pth L y) := by
  intro x y hxy hy
  by_cases e : y = j
  · subst e
    rcases hs with hs | hs
    · omega
    · by_cases e2 : x = y - 1
      · rw [e2]; exact hs
      · exact (h x (y - 1) (by omega) (by omega) (by omega)).trans hs
  · exact h x y hxy hy e
theorem almost_start {L : List (Int × Int)} {i : Nat} (h : ∀ x y, x < y → y < i → LeP (pth L x) (pth L y)) : Almost L i i := fun x y hxy hy hne => h x y hxy (by omega)
/-- The cells of pairs. -/
def cP (L : List (Int × Int)) : List Value := L.flatMap fun q => [.int .i64 q.1, .int .i64 q.2]
theorem cP_append (L M : List (Int × Int)) : cP (L ++ M) = cP L ++ cP M := by simp [cP]
theorem cP_length (L : List (Int × Int)) : (cP L).length = L.length * 2 := by
  induction L with
  | nil => rfl
  | cons t T ih => rw [cP, List.flatMap_cons, List.length_append, ← cP, ih, List.length_cons]; simp; omega
theorem cP_at (L : List (Int × Int)) (i : Nat) (h : i < L.length) : (cP L)[i * 2]? = some (.int .i64 (pth L i).1) ∧ (cP L)[i * 2 + 1]? = some (.int .i64 (pth L i).2) := by
  induction L generalizing i with
  | nil => simp at h
  | cons t T ih =>
    have e : cP (t :: T) = [.int .i64 t.1, .int .i64 t.2] ++ cP T := by simp [cP]
    rw [e]
    cases i with
    | zero => simp [pth]
    | succ i =>
      simp only [List.length_cons] at h
      have hi := ih i (by omega)
      have et : pth (t :: T) (i + 1) = pth T i := by simp [pth]
      rw [et, List.getElem?_append_right (by simp; omega), List.getElem?_append_right (by simp; omega)]
      simp only [List.length_cons, List.length_nil]
      rw [show (i + 1) * 2 - (0 + 1 + 1) = i * 2 by omega, show (i + 1) * 2 + 1 - (0 + 1 + 1) = i * 2 + 1 by omega]
      exact hi
theorem cP_set (L : List (Int × Int)) (i : Nat) (q : Int × Int) (h : i < L.length) : ((cP L).set (i * 2) (.int .i64 q.1)).set (i * 2 + 1) (.int .i64 q.2) = cP (L.set i q) := by
  induction L generalizing i with
  | nil => simp at h
  | cons t T ih =>
    have e : ∀ (t : Int × Int) T, cP (t :: T) = .int .i64 t.1 :: .int .i64 t.2 :: cP T := fun t T => by simp [cP]
    cases i with
    | zero => simp [e]
    | succ i =>
      simp only [List.length_cons] at h
      rw [List.set_cons_succ, e, e, show (i + 1) * 2 = i * 2 + 1 + 1 by omega, show i * 2 + 1 + 1 + 1 = (i * 2 + 1) + 1 + 1 by omega]
      simp only [List.set_cons_succ]
      rw [ih i (by omega)]
theorem cP_one (L : List (Int × Int)) : ∀ u ∈ cP L, u.oneCell' = true := fun u hu => by
  simp only [cP, List.mem_flatMap, List.mem_cons, List.not_mem_nil, or_false] at hu
  obtain ⟨i, _, h | h⟩ := hu <;> (subst h; rfl)
/-- Pairs in a row of the call's own, read. -/
theorem own_prs {w : World} {base : Nat} {v : Value} {L : List (Int × Int)} {e : TypeId} (h : w.ownsRow base e 2 v L.length (cP L)) : ∃ a c, v = .slice a L.length c ∧ L.length ≤ c ∧ Prs w a L := by
  have h0 := h
  rcases h.2 with ⟨rfl, h2⟩ | ⟨g, cap, cur, rfl, hg, hh, hcap, r⟩
  · exact ⟨none, 0, by rw [h2], by omega, .inl h2⟩
  · refine ⟨some ⟨g, 0, none⟩, cap, rfl, hcap, .inr ⟨g, 0, rfl, fun i hi => ?_⟩⟩
    obtain ⟨c1, c2⟩ := cP_at L i hi
    rw [Nat.zero_add, h0.cellAt _ (by omega), h0.cellAt _ (by omega)]
    exact ⟨c1, c2⟩
end Go.Proofs.Ytflbaadfbjpakaa
