/- Layer 2: lists of numbers that are counted up. -/
import Derived.Test.YtflbaadfbjpakaaBi
namespace Go.Proofs.Ytflbaadfbjpakaa
open Go Go.RowKit

/-- The cells of numbers. -/
def cI (xs : List Int) : Array Value := (xs.map (Value.int .i64)).toArray
theorem cI_get {xs : List Int} {i : Nat} (h : i < xs.length) : (cI xs)[i]? = some (.int .i64 (nth xs i)) := by simp [cI, nth, h]
theorem infoInt : (Try.prog.info? 3).map (fun i => (i.zero, i.size, i.bytes)) = some (some (.int .i64 0), 1, 8) := by kernel_rfl
theorem make_ints (n : Nat) (hn : n ≤ 1000000) (W : World) : (Instr.makeSlice 30 (.int .i64 (n : Int)) (.int .i64 (n : Int))).run Try.prog W = .ok (.slice (some ⟨W.heap.size, 0, none⟩) n n) (W.alloc (.cells (cI (List.replicate n 0)) 3)) := by
  obtain ⟨i0, hi, hz0, hz1, hz2⟩ := info_parts infoInt
  rw [run_make W 30 3 i0 (.int .i64 0) Try.underlying30 hi hz0 .i64 .i64 n n (by omega) (by omega) (by rw [hz2]; omega) (by omega)]
  have e : madeCells (Value.int .i64 0).cells (n * 1) = cI (List.replicate n 0) := by
    apply Array.ext'
    simp [madeCells, cI, Value.cells, Nat.mod_one, List.map_const']
  simp only [Int.toNat_natCast, hz1, e]
/-- A block of numbers, one of which is stored. -/
theorem Blk.setI {W : World} {B : Nat} {t : TypeId} {xs : List Int} (h : Blk W B t (cI xs)) (i : Nat) (v : Int) (_hi : i < xs.length) : Blk (W.setCell ⟨B, i, none⟩ (.int .i64 v)) B t (cI (xs.set i v)) := by
  unfold Blk at *
  have hlt := (Array.getElem?_eq_some_iff.1 h).1
  have h' : W.heap[B] = .cells (cI xs) t (0, 0) := by simpa [Array.getElem?_eq_getElem hlt] using h
  show (W.heap.modify B _)[B]? = _
  rw [Array.getElem?_eq_getElem (by simpa using hlt), Array.getElem_modify_self, h']
  simp [cI, List.map_set]
theorem Blk.i {W : World} {B : Nat} {t : TypeId} {xs : List Int} (h : Blk W B t (cI xs)) (i : Nat) (hi : i < xs.length) : W.cell? ⟨B, i, none⟩ = some (.int .i64 (nth xs i)) := h.c i (cI_get hi)
theorem nth_set {xs : List Int} {i k : Nat} {v : Int} (hi : i < xs.length) : nth (xs.set i v) k = if k = i then v else nth xs k := by
  unfold nth
  rw [List.getD_eq_getElem?_getD, List.getD_eq_getElem?_getD, List.getElem?_set]
  by_cases h : i = k
  · subst h; simp [hi]
  · rw [if_neg h, if_neg (fun e => h e.symm)]
theorem nth_replicate (n i : Nat) : nth (List.replicate n 0) i = 0 := by
  unfold nth
  rw [List.getD_eq_getElem?_getD, List.getElem?_replicate]
  split <;> rfl
/-- One more at c. -/
def bump (xs : List Int) (c : Nat) : List Int := xs.set c (nth xs c + 1)
theorem bump_length (xs : List Int) (c : Nat) : (bump xs c).length = xs.length := by simp [bump]
def bump3 (xs : List Int) (t : Tri) : List Int := bump (bump (bump xs t.1) t.2.1) t.2.2
/-- How many of the triangles have each corner. -/
def roundT (n : Nat) (T : List Tri) : List Int := T.foldl bump3 (List.replicate n 0)
def roundL (n : Nat) (L : List (Int × Int)) : List Int := roundT n (tris n L)
/-- The i-th triangle. -/
def tth (T : List Tri) (i : Nat) : Tri := T.getD i (0, 0, 0)
theorem roundT_succ (n : Nat) (T : List Tri) (k : Nat) (hk : k < T.length) : roundT n (T.take (k + 1)) = bump3 (roundT n (T.take k)) (tth T k) := by
  rw [List.take_succ_eq_append_getElem hk, roundT, List.foldl_append]
  simp [roundT, tth, hk]
/-- n numbers from 0 to b. -/
def Small (n : Nat) (b : Int) (xs : List Int) : Prop := xs.length = n ∧ ∀ i, i < n → 0 ≤ nth xs i ∧ nth xs i ≤ b
theorem small_zero (n : Nat) : Small n 0 (List.replicate n 0) := ⟨by simp, fun i _ => by rw [nth_replicate]; omega⟩
theorem Small.bump {n : Nat} {b : Int} {xs : List Int} (h : Small n b xs) {c : Nat} (hc : c < n) : Small n (b + 1) (bump xs c) := by
  refine ⟨by rw [bump_length]; exact h.1, fun i hi => ?_⟩
  unfold Proofs.Ytflbaadfbjpakaa.bump
  rw [nth_set (by rw [h.1]; exact hc)]
  have h1 := h.2 i hi
  have h2 := h.2 c hc
  split <;> omega
theorem Small.mono {n : Nat} {b c : Int} {xs : List Int} (h : Small n b xs) (hc : b ≤ c) : Small n c xs := ⟨h.1, fun i hi => by have := h.2 i hi; omega⟩
/-- The corners of a triangle ascend. -/
def TriOk (n : Nat) (t : Tri) : Prop := t.1 < t.2.1 ∧ t.2.1 < t.2.2 ∧ t.2.2 < n
theorem triC_ok {P : Nat → Nat → Bool} {n a b : Nat} (h : a < b) : ∀ k, k ≤ n → ∀ t ∈ triC P a b k, TriOk n t ∧ t.1 = a ∧ t.2.1 = b ∧ t.2.2 < k ∧ P a b = true ∧ P b t.2.2 = true ∧ P a t.2.2 = true := by
  intro k
  induction k with
  | zero => intro _ t ht; simp [triC] at ht
  | succ k ih =>
    intro hk t ht
    rw [triC, List.mem_append] at ht
    rcases ht with ht | ht
    · obtain ⟨h1, h2, h3, h4, h5⟩ := ih (by omega) t ht
      exact ⟨h1, h2, h3, by omega, h5⟩
    · split at ht
      · rename_i hh
        simp only [List.mem_singleton] at ht
        subst ht
        exact ⟨⟨h, hh.1, by simp; omega⟩, rfl, rfl, by simp, hh.2.1, hh.2.2.1, hh.2.2.2⟩
      · simp at ht
theorem triB_ok {P : Nat → Nat → Bool} {n a : Nat} : ∀ k, k ≤ n → ∀ t ∈ triB P n a k, TriOk n t ∧ t.1 = a ∧ t.2.1 < k ∧ P a t.2.1 = true ∧ P t.2.1 t.2.2 = true ∧ P a t.2.2 = true := by
  intro k
  induction k with
  | zero => intro _ t ht; simp [triB] at ht
  | succ k ih =>
    intro hk t ht
    rw [triB, List.mem_append] at ht
    rcases ht with ht | ht
    · obtain ⟨h1, h2, h3, h4⟩ := ih (by omega) t ht
      exact ⟨h1, h2, by omega, h4⟩
    · split at ht
      · rename_i hh
        obtain ⟨h1, h2, h3, h4, h5, h6, h7⟩ := triC_ok hh n (Nat.le_refl _) t ht
        exact ⟨h1, h2, by omega, by rw [h3]; exact h5, by rw [h3]; exact h6, h7⟩
      · simp at ht
theorem triA_ok {P : Nat → Nat → Bool} {n : Nat} : ∀ k, k ≤ n → ∀ t ∈ triA P n k, TriOk n t ∧ t.1 < k ∧ P t.1 t.2.1 = true ∧ P t.2.1 t.2.2 = true ∧ P t.1 t.2.2 = true := by
  intro k
  induction k with
  | zero => intro _ t ht; simp [triA] at ht
  | succ k ih =>
    intro hk t ht
    rw [triA, List.mem_append] at ht
    rcases ht with ht | ht
    · obtain ⟨h1, h2, h3⟩ := ih (by omega) t ht
      exact ⟨h1, by omega, h3⟩
    · obtain ⟨h1, h2, h3, h4, h5, h6⟩ := triB_ok n (Nat.le_refl _) t ht
      exact ⟨h1, by omega, by rw [h2]; exact h4, h5, by rw [h2]; exact h6⟩
theorem tth_mem {T : List Tri} {i : Nat} (h : i < T.length) : tth T i ∈ T := by
  unfold tth; rw [List.getD_eq_getElem?_getD, List.getElem?_eq_getElem h]; exact List.getElem_mem h
theorem tris_ok {n : Nat} {L : List (Int × Int)} {i : Nat} (h : i < (tris n L).length) : TriOk n (tth (tris n L) i) := (triA_ok n (Nat.le_refl _) _ (tth_mem h)).1
theorem tris_len {n : Nat} (L : List (Int × Int)) (h : n ≤ 12) : (tris n L).length ≤ 3000 := by
  have := tri_bound (nearB n L) h (Nat.le_refl n) (Nat.zero_le n) (Nat.zero_le n)
  simpa [triB, triC, tris] using this
theorem roundT_small {n : Nat} {T : List Tri} (hT : ∀ i, i < T.length → TriOk n (tth T i)) : ∀ k, k ≤ T.length → Small n (3 * k) (roundT n (T.take k)) := by
  intro k
  induction k with
  | zero => intro _; simpa [roundT] using small_zero n
  | succ k ih =>
    intro hk
    rw [roundT_succ n T k (by omega)]
    obtain ⟨h1, h2, h3⟩ := hT k (by omega)
    exact ((((ih (by omega)).bump (by omega)).bump (by omega)).bump h3).mono (by omega)
/-- The slice at a holds the triangles T. -/
def Trs (w : World) (a : Option Addr) (T : List Tri) : Prop :=
  T.length = 0 ∨ ∃ b, a = some ⟨b, 0, none⟩ ∧ ∀ i, i < T.length → w.cell? ⟨b, i * 3, none⟩ = some (.int .i64 (tth T i).1) ∧ w.cell? ⟨b, i * 3 + 1, none⟩ = some (.int .i64 (tth T i).2.1) ∧ w.cell? ⟨b, i * 3 + 2, none⟩ = some (.int .i64 (tth T i).2.2)
theorem Trs.next {w w' : World} {a : Option Addr} {T : List Tri} (h : Trs w a T) (hb : Below w.heap.size w w') : Trs w' a T := by
  rcases h with h | ⟨b, e, hc⟩
  · exact .inl h
  · exact .inr ⟨b, e, fun i hi => ⟨cellB hb (hc i hi).1, cellB hb (hc i hi).2.1, cellB hb (hc i hi).2.2⟩⟩
theorem cT_length (T : List Tri) : (cT T).length = T.length * 3 := by
  induction T with
  | nil => rfl
  | cons t T ih => rw [cT, List.flatMap_cons, List.length_append, ← cT, ih, List.length_cons]; simp; omega
theorem cT_at (T : List Tri) (i : Nat) (h : i < T.length) : (cT T)[i * 3]? = some (.int .i64 (tth T i).1) ∧ (cT T)[i * 3 + 1]? = some (.int .i64 (tth T i).2.1) ∧ (cT T)[i * 3 + 2]? = some (.int .i64 (tth T i).2.2) := by
  induction T generalizing i with
  | nil => simp at h
  | cons t T ih =>
    have e : cT (t :: T) = [.int .i64 t.1, .int .i64 t.2.1, .int .i64 t.2.2] ++ cT T := by simp [cT]
    rw [e]
    cases i with
    | zero => simp [tth]
    | succ i =>
      simp only [List.length_cons] at h
      have hi := ih i (by omega)
      have et : tth (t :: T) (i + 1) = tth T i := by simp [tth]
      rw [et, List.getElem?_append_right (by simp; omega), List.getElem?_append_right (by simp; omega), List.getElem?_append_right (by simp; omega)]
      simp only [List.length_cons, List.length_nil]
      rw [show (i + 1) * 3 - (0 + 1 + 1 + 1) = i * 3 by omega, show (i + 1) * 3 + 1 - (0 + 1 + 1 + 1) = i * 3 + 1 by omega, show (i + 1) * 3 + 2 - (0 + 1 + 1 + 1) = i * 3 + 2 by omega]
      exact hi
theorem own_trs {w : World} {base : Nat} {v : Value} {T : List Tri} {e : TypeId} (h : w.ownsRow base e 3 v T.length (cT T)) : ∃ a c, v = .slice a T.length c ∧ T.length ≤ c ∧ Trs w a T := by
  have h0 := h
  rcases h.2 with ⟨rfl, h2⟩ | ⟨g, cap, cur, rfl, hg, hh, hcap, r⟩
  · exact ⟨none, 0, by rw [h2], by omega, .inl h2⟩
  · refine ⟨some ⟨g, 0, none⟩, cap, rfl, hcap, .inr ⟨g, rfl, fun i hi => ?_⟩⟩
    obtain ⟨c1, c2, c3⟩ := cT_at T i hi
    rw [h0.cellAt _ (by omega), h0.cellAt _ (by omega), h0.cellAt _ (by omega)]
    exact ⟨c1, c2, c3⟩
end Go.Proofs.Ytflbaadfbjpakaa
