/- Layer 2: lists of numbers that are counted up. Layer 2: IsBrand, Triangles and Round, by the program. Layer 2: Round, by the program. Layer 2: Triangles and Round, by the specification. Layer 2: are two lists the same. Layer 2: round lists and ears. -/
import Derived.Test.YtkbdclladfjmcaaBi
namespace Go.Proofs.Ytkbdclladfjmcaa
section
open Go Go.RowKit

/-- The cells of numbers. -/
def cI (xs : List Int) : Array Value := (xs.map (Value.int .i64)).toArray
theorem cI_get {xs : List Int} {i : Nat} (h : i < xs.length) : (cI xs)[i]? = some (.int .i64 (nth xs i)) := by simp [cI, nth, h]
theorem infoInt : (Try.prog.info? 3).map (fun i => (i.zero, i.size, i.bytes)) = some (some (.int .i64 0), 1, 8) := by kernel_rfl
theorem make_ints (n : Nat) (hn : n ≤ 1000000) (W : World) : (Instr.makeSlice 35 (.int .i64 (n : Int)) (.int .i64 (n : Int))).run Try.prog W = .ok (.slice (some ⟨W.heap.size, 0, none⟩) n n) (W.alloc (.cells (cI (List.replicate n 0)) 3)) := by
  obtain ⟨i0, hi, hz0, hz1, hz2⟩ := info_parts infoInt
  rw [run_make W 35 3 i0 (.int .i64 0) Try.underlying35 hi hz0 .i64 .i64 n n (by omega) (by omega) (by rw [hz2]; omega) (by omega)]
  have e : madeCells (Value.int .i64 0).cells (n * 1) = cI (List.replicate n 0) := by
    apply Array.ext'
    simp [madeCells, cI, Value.cells, Nat.mod_one, List.map_const']
  simp only [Int.toNat_natCast, hz1, e]
/-- A block of numbers, one of which is stored. -/
theorem Blk.setI {W : World} {B : Nat} {t : TypeId} {xs : List Int} (h : Blk W B t (cI xs)) (i : Nat) (v : Int) (_hi : i < xs.length) : Blk (W.setCell ⟨B, i, none⟩ (.int .i64 v)) B t (cI (xs.set i v)) := by
  unfold Blk at *
  have hlt := (Array.getElem?_eq_some_iff.1 h).1
  have h' : W.heap[B] = .cells (cI xs) t (0, 0) := by simpa [Array.getElem?_eq_getElem hlt] using h
  show (W.heap.modify B _)[B]? = _
  rw [Array.getElem?_eq_getElem (by simpa using hlt), Array.getElem_modify_self, h']
  simp [cI, List.map_set]
theorem Blk.i {W : World} {B : Nat} {t : TypeId} {xs : List Int} (h : Blk W B t (cI xs)) (i : Nat) (hi : i < xs.length) : W.cell? ⟨B, i, none⟩ = some (.int .i64 (nth xs i)) := h.c i (cI_get hi)
theorem nth_set {xs : List Int} {i k : Nat} {v : Int} (hi : i < xs.length) : nth (xs.set i v) k = if k = i then v else nth xs k := by
  unfold nth
  rw [List.getD_eq_getElem?_getD, List.getD_eq_getElem?_getD, List.getElem?_set]
  by_cases h : i = k
  · subst h; simp [hi]
  · rw [if_neg h, if_neg (fun e => h e.symm)]
theorem nth_replicate (n i : Nat) : nth (List.replicate n 0) i = 0 := by
  unfold nth
  rw [List.getD_eq_getElem?_getD, List.getElem?_replicate]
  split <;> rfl
/-- One more at c. -/
def bump (xs : List Int) (c : Nat) : List Int := xs.set c (nth xs c + 1)
theorem bump_length (xs : List Int) (c : Nat) : (bump xs c).length = xs.length := by simp [bump]
def bump3 (xs : List Int) (t : Tri) : List Int := bump (bump (bump xs t.1) t.2.1) t.2.2
/-- How many of the triangles have each corner. -/
def roundT (n : Nat) (T : List Tri) : List Int := T.foldl bump3 (List.replicate n 0)
def roundL (n : Nat) (L : List (Int × Int)) : List Int := roundT n (tris n L)
/-- The i-th triangle. -/
def tth (T : List Tri) (i : Nat) : Tri := T.getD i (0, 0, 0)
theorem roundT_succ (n : Nat) (T : List Tri) (k : Nat) (hk : k < T.length) : roundT n (T.take (k + 1)) = bump3 (roundT n (T.take k)) (tth T k) := by
  rw [List.take_succ_eq_append_getElem hk, roundT, List.foldl_append]
  simp [roundT, tth, hk]
/-- n numbers from 0 to b. -/
def Small (n : Nat) (b : Int) (xs : List Int) : Prop := xs.length = n ∧ ∀ i, i < n → 0 ≤ nth xs i ∧ nth xs i ≤ b
theorem small_zero (n : Nat) : Small n 0 (List.replicate n 0) := ⟨by simp, fun i _ => by rw [nth_replicate]; omega⟩
theorem Small.bump {n : Nat} {b : Int} {xs : List Int} (h : Small n b xs) {c : Nat} (hc : c < n) : Small n (b + 1) (bump xs c) := by
  refine ⟨by rw [bump_length]; exact h.1, fun i hi => ?_⟩
  unfold Proofs.Ytkbdclladfjmcaa.bump
  rw [nth_set (by rw [h.1]; exact hc)]
  have h1 := h.2 i hi
  have h2 := h.2 c hc
  split <;> omega
theorem Small.mono {n : Nat} {b c : Int} {xs : List Int} (h : Small n b xs) (hc : b ≤ c) : Small n c xs := ⟨h.1, fun i hi => by have := h.2 i hi; omega⟩
/-- The corners of a triangle ascend. -/
def TriOk (n : Nat) (t : Tri) : Prop := t.1 < t.2.1 ∧ t.2.1 < t.2.2 ∧ t.2.2 < n
theorem triC_ok {P : Nat → Nat → Bool} {n a b : Nat} (h : a < b) : ∀ k, k ≤ n → ∀ t ∈ triC P a b k, TriOk n t ∧ t.1 = a ∧ t.2.1 = b ∧ t.2.2 < k ∧ P a b = true ∧ P b t.2.2 = true ∧ P a t.2.2 = true := by
  intro k
  induction k with
  | zero => intro _ t ht; simp [triC] at ht
  | succ k ih =>
    intro hk t ht
    rw [triC, List.mem_append] at ht
    rcases ht with ht | ht
    · obtain ⟨h1, h2, h3, h4, h5⟩ := ih (by omega) t ht
      exact ⟨h1, h2, h3, by omega, h5⟩
    · split at ht
      · rename_i hh
        simp only [List.mem_singleton] at ht
        subst ht
        exact ⟨⟨h, hh.1, by simp; omega⟩, rfl, rfl, by simp, hh.2.1, hh.2.2.1, hh.2.2.2⟩
      · simp at ht
theorem triB_ok {P : Nat → Nat → Bool} {n a : Nat} : ∀ k, k ≤ n → ∀ t ∈ triB P n a k, TriOk n t ∧ t.1 = a ∧ t.2.1 < k ∧ P a t.2.1 = true ∧ P t.2.1 t.2.2 = true ∧ P a t.2.2 = true := by
  intro k
  induction k with
  | zero => intro _ t ht; simp [triB] at ht
  | succ k ih =>
    intro hk t ht
    rw [triB, List.mem_append] at ht
    rcases ht with ht | ht
    · obtain ⟨h1, h2, h3, h4⟩ := ih (by omega) t ht
      exact ⟨h1, h2, by omega, h4⟩
    · split at ht
      · rename_i hh
        obtain ⟨h1, h2, h3, h4, h5, h6, h7⟩ := triC_ok hh n (Nat.le_refl _) t ht
        exact ⟨h1, h2, by omega, by rw [h3]; exact h5, by rw [h3]; exact h6, h7⟩
      · simp at ht
theorem triA_ok {P : Nat → Nat → Bool} {n : Nat} : ∀ k, k ≤ n → ∀ t ∈ triA P n k, TriOk n t ∧ t.1 < k ∧ P t.1 t.2.1 = true ∧ P t.2.1 t.2.2 = true ∧ P t.1 t.2.2 = true := by
  intro k
  induction k with
  | zero => intro _ t ht; simp [triA] at ht
  | succ k ih =>
    intro hk t ht
    rw [triA, List.mem_append] at ht
    rcases ht with ht | ht
    · obtain ⟨h1, h2, h3⟩ := ih (by omega) t ht
      exact ⟨h1, by omega, h3⟩
    · obtain ⟨h1, h2, h3, h4, h5, h6⟩ := triB_ok n (Nat.le_refl _) t ht
      exact ⟨h1, by omega, by rw [h2]; exact h4, h5, by rw [h2]; exact h6⟩
theorem tth_mem {T : List Tri} {i : Nat} (h : i < T.length) : tth T i ∈ T := by
  unfold tth; rw [List.getD_eq_getElem?_getD, List.getElem?_eq_getElem h]; exact List.getElem_mem h
theorem tris_ok {n : Nat} {L : List (Int × Int)} {i : Nat} (h : i < (tris n L).length) : TriOk n (tth (tris n L) i) := (triA_ok n (Nat.le_refl _) _ (tth_mem h)).1
theorem tris_len {n : Nat} (L : List (Int × Int)) (h : n ≤ 12) : (tris n L).length ≤ 3000 := by
  have := tri_bound (nearB n L) h (Nat.le_refl n) (Nat.zero_le n) (Nat.zero_le n)
  simpa [triB, triC, tris] using this
theorem roundT_small {n : Nat} {T : List Tri} (hT : ∀ i, i < T.length → TriOk n (tth T i)) : ∀ k, k ≤ T.length → Small n (3 * k) (roundT n (T.take k)) := by
  intro k
  induction k with
  | zero => intro _; simpa [roundT] using small_zero n
  | succ k ih =>
    intro hk
    rw [roundT_succ n T k (by omega)]
    obtain ⟨h1, h2, h3⟩ := hT k (by omega)
    exact ((((ih (by omega)).bump (by omega)).bump (by omega)).bump h3).mono (by omega)
/-- The slice at a holds the triangles T. -/
def Trs (w : World) (a : Option Addr) (T : List Tri) : Prop :=
  T.length = 0 ∨ ∃ b, a = some ⟨b, 0, none⟩ ∧ ∀ i, i < T.length → w.cell? ⟨b, i * 3, none⟩ = some (.int .i64 (tth T i).1) ∧ w.cell? ⟨b, i * 3 + 1, none⟩ = some (.int .i64 (tth T i).2.1) ∧ w.cell? ⟨b, i * 3 + 2, none⟩ = some (.int .i64 (tth T i).2.2)
theorem Trs.next {w w' : World} {a : Option Addr} {T : List Tri} (h : Trs w a T) (hb : Below w.heap.size w w') : Trs w' a T := by
  rcases h with h | ⟨b, e, hc⟩
  · exact .inl h
  · exact .inr ⟨b, e, fun i hi => ⟨cellB hb (hc i hi).1, cellB hb (hc i hi).2.1, cellB hb (hc i hi).2.2⟩⟩
theorem cT_length (T : List Tri) : (cT T).length = T.length * 3 := by
  induction T with
  | nil => rfl
  | cons t T ih => rw [cT, List.flatMap_cons, List.length_append, ← cT, ih, List.length_cons]; simp; omega
theorem cT_at (T : List Tri) (i : Nat) (h : i < T.length) : (cT T)[i * 3]? = some (.int .i64 (tth T i).1) ∧ (cT T)[i * 3 + 1]? = some (.int .i64 (tth T i).2.1) ∧ (cT T)[i * 3 + 2]? = some (.int .i64 (tth T i).2.2) := by
  induction T generalizing i with
  | nil => simp at h
  | cons t T ih =>
    have e : cT (t :: T) = [.int .i64 t.1, .int .i64 t.2.1, .int .i64 t.2.2] ++ cT T := by simp [cT]
    rw [e]
    cases i with
    | zero => simp [tth]
    | succ i =>
      simp only [List.length_cons] at h
      have hi := ih i (by omega)
      have et : tth (t :: T) (i + 1) = tth T i := by simp [tth]
      rw [et, List.getElem?_append_right (by simp; omega), List.getElem?_append_right (by simp; omega), List.getElem?_append_right (by simp; omega)]
      simp only [List.length_cons, List.length_nil]
      rw [show (i + 1) * 3 - (0 + 1 + 1 + 1) = i * 3 by omega, show (i + 1) * 3 + 1 - (0 + 1 + 1 + 1) = i * 3 + 1 by omega, show (i + 1) * 3 + 2 - (0 + 1 + 1 + 1) = i * 3 + 2 by omega]
      exact hi
theorem own_trs {w : World} {base : Nat} {v : Value} {T : List Tri} {e : TypeId} (h : w.ownsRow base e 3 v T.length (cT T)) : ∃ a c, v = .slice a T.length c ∧ T.length ≤ c ∧ Trs w a T := by
  have h0 := h
  rcases h.2 with ⟨rfl, h2⟩ | ⟨g, cap, cur, rfl, hg, hh, hcap, r⟩
  · exact ⟨none, 0, by rw [h2], by omega, .inl h2⟩
  · refine ⟨some ⟨g, 0, none⟩, cap, rfl, hcap, .inr ⟨g, rfl, fun i hi => ?_⟩⟩
    obtain ⟨c1, c2, c3⟩ := cT_at T i hi
    rw [h0.cellAt _ (by omega), h0.cellAt _ (by omega), h0.cellAt _ (by omega)]
    exact ⟨c1, c2, c3⟩
end
section
open Go Go.RowKit

theorem brandOf_yes (n : Int) (a : Option Addr) (m c : Nat) (L : List (Int × Int)) (w : World) (h : Prs w a L) (hl : L.length = m) (hcap : m ≤ c) (hB : BrandP n L) :
    Calls Try.prog 13 #[.int .i64 n, .slice a m c] w (Ret (.tuple #[.agg #[.int .i64 n, .slice a m c], .bool true]) w) := by
  have := brandOf_any n a m c L w h hl hcap (by have := hB.2.2.1; have := hB.2.1; omega)
  rwa [brandV_yes hB] at this
theorem brandOf_not (n : Int) (a : Option Addr) (m c : Nat) (L : List (Int × Int)) (w : World) (h : Prs w a L) (hl : L.length = m) (hcap : m ≤ c) (hm : m ≤ 4611686018427387904) (hB : ¬ BrandP n L) :
    Calls Try.prog 13 #[.int .i64 n, .slice a m c] w (Ret (.tuple #[.agg #[.int .i64 0, .slice none 0 0], .bool false]) w) := by
  have := brandOf_any n a m c L w h hl hcap hm
  rwa [brandV_no hB] at this
/-- What Triangles returns of a brand. -/
def GotT (n : Nat) (L : List (Int × Int)) (w : World) (e : Ending) (w' : World) : Prop :=
  ∃ a c, e = .returned (.tuple #[.slice a (tris n L).length c, .int .i64 0]) ∧ w'.ownsRow w.heap.size 50 3 (.slice a (tris n L).length c) (tris n L).length (cT (tris n L)) ∧ Trs w' a (tris n L) ∧ (tris n L).length ≤ c ∧ Below w.heap.size w w'
end
section
open Go Go.RowKit

/-- What Round returns of a brand. -/
def GotR (n : Nat) (L : List (Int × Int)) (w : World) (e : Ending) (w' : World) : Prop :=
  ∃ g, e = .returned (.tuple #[.slice (some ⟨g, 0, none⟩) n n, .int .i64 0]) ∧ Blk w' g 3 (cI (roundL n L)) ∧ w.heap.size ≤ g ∧ Below w.heap.size w w'
theorem roundL_length (n : Nat) (L : List (Int × Int)) : (roundL n L).length = n := by
  have := (roundT_small (n := n) (T := tris n L) (fun i hi => tris_ok hi) _ (Nat.le_refl _)).1
  rwa [List.take_length] at this
set_option maxRecDepth 100000 in
set_option maxHeartbeats 800000 in
theorem Round_no (n : Int) (a : Option Addr) (m c : Nat) (L : List (Int × Int)) (w : World) (h : Prs w a L) (hl : L.length = m) (hcap : m ≤ c) (hm : m ≤ 4611686018427387904) (hB : ¬ BrandP n L) :
    Calls Try.prog 9 #[.int .i64 n, .slice a m c] w (Ret (.tuple #[.slice none 0 0, .int .i64 2]) w) := by
  have K := Lib.hid (brandOf_not n a m c L w h hl hcap hm hB)
  clear hB hl h
  go_enter Try.func9, Try.ntmps9
  go_wp2_with (go_at_call 13; refine K.out.mono ?_; rintro e w1 ⟨rfl, hb1⟩)
  go_ret2
  exact Ret.mk rfl (nextB hb1 (b1 _ _))
theorem Trs.other {w : World} {a : Option Addr} {T : List Tri} (h : Trs w a T) {g i : Nat} (hne : ∀ x, a = some x → g < x.block) (v : Value) : Trs (w.setCell ⟨g, i, none⟩ v) a T := by
  rcases h with h | ⟨b, rfl, hc⟩
  · exact .inl h
  · refine .inr ⟨b, rfl, fun k hk => ?_⟩
    have hb : (w.setCell ⟨g, i, none⟩ v).heap[b]? = w.heap[b]? := Below.heap_setCell w ⟨g, i, none⟩ v b (by have := hne _ rfl; simp at this ⊢; omega)
    obtain ⟨h1, h2, h3⟩ := hc k hk
    exact ⟨(World.cell?_of_block (a := ⟨b, _, none⟩) hb).trans h1, (World.cell?_of_block (a := ⟨b, _, none⟩) hb).trans h2, (World.cell?_of_block (a := ⟨b, _, none⟩) hb).trans h3⟩
theorem Blk.setB {W w : World} {B i : Nat} {v : Value} (h : Below w.heap.size w W) (hB : w.heap.size ≤ B) : Below w.heap.size w (W.setCell ⟨B, i, none⟩ v) := h.setCell hB _
set_option maxRecDepth 100000 in
set_option maxHeartbeats 4000000 in
theorem Round_yes (n : Nat) (a : Option Addr) (m c : Nat) (L : List (Int × Int)) (w : World) (h : Prs w a L) (hl : L.length = m) (hcap : m ≤ c) (hB : BrandP n L) :
    Calls Try.prog 9 #[.int .i64 n, .slice a m c] w (GotR n L w) := by
  have hn3 : 3 ≤ n := by have := hB.1; omega
  have hn : n ≤ 12 := by have := hB.2.1; omega
  have K := Lib.hid (brandOf_yes n a m c L w h hl hcap hB)
  have T : ∀ W, Below w.heap.size w W → _ := fun W hW => triangles_any n a m c L W (h.next hW) hl (by have := hB.2.2.1; have := hB.2.1; omega) (by have := hB.1; omega) (by have := hB.2.1; omega)
  replace T := Lib.hid T
  have hmk := make_ints n (by omega)
  have hT3 := tris_len L hn
  have hok := Lib.hid (fun i (hi : i < (tris n L).length) => tris_ok (n := n) (L := L) hi)
  have hsm := Lib.hid (roundT_small (n := n) (T := tris n L) hok.out)
  clear hB hl h
  have ix0 : ∀ (x y z : Int) (W : World), (Instr.index 50 (.agg #[.int .i64 x, .int .i64 y, .int .i64 z]) (.int .i64 0)).run Try.prog W = .ok (.int .i64 x) W := fun _ _ _ _ => by kernel_rfl
  have ix1 : ∀ (x y z : Int) (W : World), (Instr.index 50 (.agg #[.int .i64 x, .int .i64 y, .int .i64 z]) (.int .i64 1)).run Try.prog W = .ok (.int .i64 y) W := fun _ _ _ _ => by kernel_rfl
  have ix2 : ∀ (x y z : Int) (W : World), (Instr.index 50 (.agg #[.int .i64 x, .int .i64 y, .int .i64 z]) (.int .i64 2)).run Try.prog W = .ok (.int .i64 z) W := fun _ _ _ _ => by kernel_rfl
  go_enter Try.func9, Try.ntmps9
  go_wp2_with (go_at_call 13; refine K.out.mono ?_; rintro e w1 ⟨rfl, hb1⟩)
  clear hmk
  have B1 := nextB hb1 (b2 w1 (.cells #[.int .i64 n, .slice a m c] 42) (.cells (cI (List.replicate n 0)) 3))
  have I0 : Blk ((w1.alloc (.cells #[.int .i64 n, .slice a m c] 42)).alloc (.cells (cI (List.replicate n 0)) 3)) (w1.heap.size + 1) 3 (cI (List.replicate n 0)) := by
    have := Blk.new (w1.alloc (.cells #[.int .i64 n, .slice a m c] 42)) 3 (cI (List.replicate n 0))
    simpa using this
  have hsz := hb1.size
  go_wp2_with (go_at_call 17; refine (T.out _ B1).mono ?_; rintro e w2 ⟨v, rfl, hown, hb2⟩; have hol := hown.lt; obtain ⟨a1, c1, rfl, hc1, hT1⟩ := own_trs hown; clear hown; replace B1 := nextB B1 hb2; replace I0 := I0.ext hb2; clear hb2 hb1)
  have hga : ∀ x, a1 = some x → w1.heap.size + 1 < x.block := fun x hx => by
    subst hx
    have := (hol x.block rfl).1
    simp at this
    omega
  clear hol
  generalize hg : w1.heap.size + 1 = g at *
  have hwg : w.heap.size ≤ g := by omega
  clear hg hsz
  replace hga := Lib.hid hga
  have hN0 : roundT n ((tris n L).take 0) = List.replicate n 0 := rfl
  rw [← hN0] at I0
  clear hN0
  have hlT : Hid ((tris n L).length = (tris n L).length) := Lib.hid rfl
  obtain ⟨q, hq⟩ : ∃ q, q = (tris n L).length := ⟨_, rfl⟩
  rw [← hq] at hT3
  rw [← hq]
  replace hq := Lib.hid hq
  clear hc1 hlT
  go_loopw [26] (fun i wr => ∃ k : Nat, k ≤ q ∧ i = .int .i64 k ∧ Blk wr g 3 (cI (roundT n ((tris n L).take k))) ∧ Trs wr a1 (tris n L) ∧ Below w.heap.size w wr) (fun i _ => q - (intOf i).toNat)
  case atStart => exact ⟨0, by omega, rfl, I0, hT1, B1⟩
  case round =>
    clear I0 hT1 B1
    obtain ⟨k, hk, rfl, I0, hT1, B1⟩ := hrel
    by_cases hkq : k < q
    · rcases hT1 with hT1 | ⟨bt, rfl, hct⟩
      · exact absurd hq.out (by omega)
      replace hct := Lib.hid hct
      have hgb := hga.out _ rfl
      simp only [] at hgb
      obtain ⟨c0, c1', c2⟩ := hct.out k (by rw [← hq.out]; exact hkq)
      obtain ⟨o1, o2, o3⟩ := hok.out k (by rw [← hq.out]; exact hkq)
      have hs0 := Lib.hid (hsm.out k (by rw [← hq.out]; omega))
      have hst := Lib.hid (roundT_succ n (tris n L) k (by rw [← hq.out]; exact hkq))
      generalize roundT n ((tris n L).take k) = xs at *
      have hs1 := Lib.hid (hs0.out.bump (c := (tth (tris n L) k).1) (by omega))
      have hs2 := Lib.hid (hs1.out.bump (c := (tth (tris n L) k).2.1) (by omega))
      have hi0 : (0 : Int) ≤ (k : Int) := by omega
      have hi1 : (k : Int) < (q : Int) := by omega
      have q1 : ((tth (tris n L) k).1 : Int) < (n : Int) := by omega
      have q2 : ((tth (tris n L) k).2.1 : Int) < (n : Int) := by omega
      have q3 : ((tth (tris n L) k).2.2 : Int) < (n : Int) := by omega
      have q4 : (3 * (k : Int)) ≤ 9000 := by omega
      go_wp2
      have B2 := nextB B1 (b1 wr (.cells #[.int .i64 (tth (tris n L) k).1, .int .i64 (tth (tris n L) k).2.1, .int .i64 (tth (tris n L) k).2.2] 50))
      replace I0 := I0.alloc (.cells #[.int .i64 (tth (tris n L) k).1, .int .i64 (tth (tris n L) k).2.1, .int .i64 (tth (tris n L) k).2.2] 50)
      have hT2 : Trs (wr.alloc (.cells #[.int .i64 (tth (tris n L) k).1, .int .i64 (tth (tris n L) k).2.1, .int .i64 (tth (tris n L) k).2.2] 50)) (some ⟨bt, 0, none⟩) (tris n L) := Trs.next (.inr ⟨bt, rfl, hct.out⟩) (b1 _ _)
      clear B1 c0 c1' c2 hct
      go_loopw [31] (fun i wr => Trs wr (some ⟨bt, 0, none⟩) (tris n L) ∧ Below w.heap.size w wr ∧ ((i = .int .i64 0 ∧ Blk wr g 3 (cI xs)) ∨ (i = .int .i64 1 ∧ Blk wr g 3 (cI (bump xs (tth (tris n L) k).1))) ∨ (i = .int .i64 2 ∧ Blk wr g 3 (cI (bump (bump xs (tth (tris n L) k).1) (tth (tris n L) k).2.1))) ∨ (i = .int .i64 3 ∧ Blk wr g 3 (cI (bump3 xs (tth (tris n L) k)))))) (fun i _ => 3 - (intOf i).toNat)
      case atStart => exact ⟨hT2, B2, .inl ⟨rfl, I0⟩⟩
      case round =>
        clear hT2 B2 I0
        obtain ⟨hT2, B2, ⟨rfl, I0⟩ | ⟨rfl, I0⟩ | ⟨rfl, I0⟩ | ⟨rfl, I0⟩⟩ := hrel
        · have ci := I0.i (tth (tris n L) k).1 (by rw [hs0.out.1]; omega)
          have cf := I0.fr (tth (tris n L) k).1
          have cl := I0.lt
          have cb := hs0.out.2 (tth (tris n L) k).1 (by omega)
          go_wp2
          go_roundw
          case rel => exact ⟨hT2.other hga.out _, B2.setCell hwg _, .inr (.inl ⟨rfl, I0.setI _ _ (by rw [hs0.out.1]; omega)⟩)⟩
          case measure => simp [intOf]
        · have ci := I0.i (tth (tris n L) k).2.1 (by rw [hs1.out.1]; omega)
          have cf := I0.fr (tth (tris n L) k).2.1
          have cl := I0.lt
          have cb := hs1.out.2 (tth (tris n L) k).2.1 (by omega)
          go_wp2
          go_roundw
          case rel => exact ⟨hT2.other hga.out _, B2.setCell hwg _, .inr (.inr (.inl ⟨rfl, I0.setI _ _ (by rw [hs1.out.1]; omega)⟩))⟩
          case measure => simp [intOf]
        · have ci := I0.i (tth (tris n L) k).2.2 (by rw [hs2.out.1]; omega)
          have cf := I0.fr (tth (tris n L) k).2.2
          have cl := I0.lt
          have cb := hs2.out.2 (tth (tris n L) k).2.2 (by omega)
          go_wp2
          go_roundw
          case rel => exact ⟨hT2.other hga.out _, B2.setCell hwg _, .inr (.inr (.inr ⟨rfl, I0.setI _ _ (by rw [hs2.out.1]; omega)⟩))⟩
          case measure => simp [intOf]
        · go_wp2
          go_roundw
          case rel => exact ⟨k + 1, by omega, by go_num, by rw [hst.out]; exact I0, hT2, B2⟩
          case measure => simp [intOf]; omega
    · go_wp2
      go_ret2
      refine ⟨g, rfl, ?_, hwg, B1⟩
      have e : (tris n L).take k = tris n L := List.take_of_length_le (by rw [← hq.out]; omega)
      rw [e] at I0
      exact I0
end
section
open Go Go.RowKit
end
section
open Go Go.RowKit

theorem ints_at {w : World} {a : Option Addr} {xs : List Int} (h : Ints w a xs) (hn : 0 < xs.length) :
    ∃ b off, a = some ⟨b, off, none⟩ ∧ ∀ i, i < xs.length → w.cell? ⟨b, off + i, none⟩ = some (.int .i64 (nth xs i)) := by
  rcases h with h | h
  · omega
  · exact h
theorem ext_nth {xs ys : List Int} (h : xs.length = ys.length) (hh : ∀ i, i < xs.length → nth xs i = nth ys i) : xs = ys := by
  apply List.ext_getElem h
  intro i h1 h2
  have := hh i h1
  simpa [nth, h1, h2] using this
theorem ext_pth {xs ys : List (Int × Int)} (h : xs.length = ys.length) (hh : ∀ i, i < xs.length → pth xs i = pth ys i) : xs = ys := by
  apply List.ext_getElem h
  intro i h1 h2
  have := hh i h1
  simpa [pth, h1, h2] using this
set_option maxRecDepth 100000 in
set_option maxHeartbeats 800000 in
theorem same_any (a a' : Option Addr) (n n' c c' : Nat) (xs ys : List Int) (w : World) (h : Ints w a xs) (h' : Ints w a' ys) (hn : xs.length = n) (hn' : ys.length = n') (hm : n ≤ 4611686018427387904) (hm' : n' ≤ 4611686018427387904) :
    Calls Try.prog 12 #[.slice a n c, .slice a' n' c'] w (Ret (.bool (decide (xs = ys))) w) := by
  by_cases he : n = n'
  · subst he
    by_cases h0 : n = 0
    · subst h0
      have e : Hid (xs = ys) := by rw [List.eq_nil_of_length_eq_zero hn, List.eq_nil_of_length_eq_zero hn']; exact Lib.hid rfl
      rw [decide_eq_true e.out]
      clear hn hn'
      go_enter Try.func12, Try.ntmps12
      go_wp2
      go_loop [5] (fun i => i = .int .i64 0) (fun i => 0)
      case atStart => rfl
      case round =>
        subst hrel
        go_wp2
        go_ret
        exact Ret.mk rfl (Below.refl _ _)
    · obtain ⟨b, off, rfl, hc⟩ := ints_at h (by omega)
      obtain ⟨b', off', rfl, hc'⟩ := ints_at h' (by omega)
      rw [hn] at hc
      rw [hn'] at hc'
      replace hc := Lib.hid hc
      replace hc' := Lib.hid hc'
      replace hn := Lib.hid hn
      replace hn' := Lib.hid hn'
      clear h h'
      go_enter Try.func12, Try.ntmps12
      go_wp2
      go_loopw [5] (fun i wr => ∃ k : Nat, k ≤ n ∧ i = .int .i64 k ∧ (∀ j, j < k → nth xs j = nth ys j) ∧ Below w.heap.size w wr) (fun i _ => n - (intOf i).toNat)
      case atStart => exact ⟨0, by omega, rfl, fun j hj => absurd hj (by omega), Below.refl _ _⟩
      case round =>
        obtain ⟨k, hk, rfl, hok, B0⟩ := hrel
        replace hok := Lib.hid hok
        by_cases hlt : k < n
        · have x0 := cellX (cellB B0 (hc.out k hlt))
          have y0 := cellX (cellB B0 (hc'.out k hlt))
          have hi0 : (0 : Int) ≤ (k : Int) := by omega
          have hi1 : (k : Int) < (n : Int) := by omega
          go_wp2
          refine wp_region_ext (by kernel_rfl) (by kernel_rfl) ?_
          repeat (go_big_quiet_step (fail))
          refine wpQuiet_nil ?_
          rintro ⟨w1, hw1⟩
          dsimp only
          replace B0 := nextB B0 hw1
          clear x0 y0 hw1
          cases g : (nth xs k != nth ys k)
          · have g' := Lib.hid (show nth xs k = nth ys k by simpa using g)
            go_wp2
            go_roundw
            case rel => exact ⟨k + 1, by omega, by go_num, fun j hj => (by
              by_cases hjk : j = k
              · subst hjk; exact g'.out
              · exact hok.out j (by omega)), B0⟩
            case measure => simp [intOf]; omega
          · have g' := Lib.hid (show nth xs k ≠ nth ys k by simpa using g)
            go_wp2
            go_ret
            exact Ret.mk (ret_dec (by simp only [Bool.false_eq_true, false_iff]; intro e; exact g'.out (by rw [e]))) B0
        · go_wp2
          go_ret
          exact Ret.mk (ret_dec (by simp only [true_iff]; exact ext_nth (hn.out.trans hn'.out.symm) (fun i hi => hok.out i (by rw [hn.out] at hi; omega)))) B0
  · have e : Hid (¬ xs = ys) := Lib.hid (fun e => he (by rw [← hn, ← hn', e]))
    have g : ((n : Int) != (n' : Int)) = true := by rw [bne_iff_ne]; omega
    rw [decide_eq_false e.out]
    clear hn hn' he
    go_enter Try.func12, Try.ntmps12
    go_wp2
    go_ret
    exact Ret.mk rfl (Below.refl _ _)
set_option maxRecDepth 100000 in
set_option maxHeartbeats 800000 in
theorem pairs_any (a a' : Option Addr) (n n' c c' : Nat) (xs ys : List (Int × Int)) (w : World) (h : Prs w a xs) (h' : Prs w a' ys) (hn : xs.length = n) (hn' : ys.length = n') (hm : n ≤ 4611686018427387904) (hm' : n' ≤ 4611686018427387904) :
    Calls Try.prog 8 #[.slice a n c, .slice a' n' c'] w (Ret (.bool (decide (xs = ys))) w) := by
  by_cases he : n = n'
  · subst he
    by_cases h0 : n = 0
    · subst h0
      have e : Hid (xs = ys) := by rw [List.eq_nil_of_length_eq_zero hn, List.eq_nil_of_length_eq_zero hn']; exact Lib.hid rfl
      rw [decide_eq_true e.out]
      clear hn hn'
      go_enter Try.func8, Try.ntmps8
      go_wp2
      go_loop [5] (fun i => i = .int .i64 0) (fun i => 0)
      case atStart => rfl
      case round =>
        subst hrel
        go_wp2
        go_ret
        exact Ret.mk rfl (Below.refl _ _)
    · obtain ⟨b, off, rfl, hc⟩ := prs_at h (by omega)
      obtain ⟨b', off', rfl, hc'⟩ := prs_at h' (by omega)
      rw [hn] at hc
      rw [hn'] at hc'
      replace hc := Lib.hid hc
      replace hc' := Lib.hid hc'
      replace hn := Lib.hid hn
      replace hn' := Lib.hid hn'
      clear h h'
      go_enter Try.func8, Try.ntmps8
      go_wp2
      go_loopw [5] (fun i wr => ∃ k : Nat, k ≤ n ∧ i = .int .i64 k ∧ (∀ j, j < k → pth xs j = pth ys j) ∧ Below w.heap.size w wr) (fun i _ => n - (intOf i).toNat)
      case atStart => exact ⟨0, by omega, rfl, fun j hj => absurd hj (by omega), Below.refl _ _⟩
      case round =>
        obtain ⟨k, hk, rfl, hok, B0⟩ := hrel
        replace hok := Lib.hid hok
        by_cases hlt : k < n
        · have x0 := cellX (cellB B0 (hc.out k hlt).1)
          have y0 := cellX (cellB B0 (hc'.out k hlt).1)
          have x1 := cellX (cellB B0 (hc.out k hlt).2)
          have y1 := cellX (cellB B0 (hc'.out k hlt).2)
          have hi0 : (0 : Int) ≤ (k : Int) := by omega
          have hi1 : (k : Int) < (n : Int) := by omega
          go_wp2
          refine wp_region_ext (by kernel_rfl) (by kernel_rfl) ?_
          repeat (go_big_quiet_step (fail))
          refine wpQuiet_nil ?_
          rintro ⟨w1, hw1⟩
          dsimp only
          replace B0 := nextB B0 hw1
          clear x0 y0 x1 y1 hw1
          cases g : eqP ((pth xs k).1, (pth xs k).2) ((pth ys k).1, (pth ys k).2)
          · have g' := Lib.hid (show pth xs k ≠ pth ys k from eqP_not.1 g)
            go_wp2
            go_ret
            exact Ret.mk (ret_dec (by simp only [Bool.false_eq_true, false_iff]; intro e; exact g'.out (by rw [e]))) B0
          · have g' := Lib.hid (show pth xs k = pth ys k from eqP_iff.1 g)
            go_wp2
            go_roundw
            case rel => exact ⟨k + 1, by omega, by go_num, fun j hj => (by
              by_cases hjk : j = k
              · subst hjk; exact g'.out
              · exact hok.out j (by omega)), B0⟩
            case measure => simp [intOf]; omega
        · go_wp2
          go_ret
          exact Ret.mk (ret_dec (by simp only [true_iff]; exact ext_pth (hn.out.trans hn'.out.symm) (fun i hi => hok.out i (by rw [hn.out] at hi; omega)))) B0
  · have e : Hid (¬ xs = ys) := Lib.hid (fun e => he (by rw [← hn, ← hn', e]))
    have g : ((n : Int) != (n' : Int)) = true := by rw [bne_iff_ne]; omega
    rw [decide_eq_false e.out]
    clear hn hn' he
    go_enter Try.func8, Try.ntmps8
    go_wp2
    go_ret
    exact Ret.mk rfl (Below.refl _ _)
end
section
open Go Go.RowKit

/-- A round list. -/
def RoundP (xs : List Int) : Prop := 3 ≤ xs.length ∧ xs.length ≤ 12 ∧ ∀ i, i < xs.length → 1 ≤ nth xs i ∧ nth xs i ≤ 12
instance (xs) : Decidable (RoundP xs) := by unfold RoundP; infer_instance
/-- A 1 between greater numbers. -/
def EarP (xs : List Int) (c : Nat) : Prop := nth xs c = 1 ∧ 1 < nth xs ((c + xs.length - 1) % xs.length) ∧ 1 < nth xs ((c + 1) % xs.length)
instance (xs c) : Decidable (EarP xs c) := by unfold EarP; infer_instance
theorem mod_ahead (k n : Nat) (h : 0 < n) : (0 : Int) ≤ ((k : Int) + (n : Int) - 1) % (n : Int) ∧ ((k : Int) + (n : Int) - 1) % (n : Int) < (n : Int) ∧ (((k : Int) + (n : Int) - 1) % (n : Int)).toNat = (k + n - 1) % n := by
  have h := mod_at (k + n - 1) n h
  rwa [show ((k + n - 1 : Nat) : Int) = (k : Int) + (n : Int) - 1 by omega] at h
set_option maxRecDepth 100000 in
set_option maxHeartbeats 800000 in
theorem isRound_any (a : Option Addr) (n c : Nat) (xs : List Int) (w : World) (h : Ints w a xs) (hn : xs.length = n) (hm : n ≤ 4611686018427387904) :
    Calls Try.prog 18 #[.slice a n c] w (Only (.bool (decide (RoundP xs))) w) := by
  by_cases hh : 3 ≤ n ∧ n ≤ 12
  · obtain ⟨b, off, rfl, hc⟩ := ints_at h (by omega)
    obtain ⟨h3, h12⟩ := hh
    rw [hn] at hc
    have hr : Hid (RoundP xs ↔ ∀ i, i < n → 1 ≤ nth xs i ∧ nth xs i ≤ 12) := ⟨fun h i hi => h.2.2 i (by omega), fun h => ⟨by omega, by omega, fun i hi => h i (by omega)⟩⟩
    replace hc := Lib.hid hc
    clear h hn
    go_enter Try.func18, Try.ntmps18
    go_wp2
    go_loop [4, 15] (fun v i => ∃ k : Nat, k ≤ n ∧ i = .int .i64 k ∧ (∀ j, j < k → 1 ≤ nth xs j ∧ nth xs j ≤ 12)) (fun _ i => n - (intOf i).toNat)
    case atStart => exact ⟨0, by omega, rfl, fun j hj => absurd hj (by omega)⟩
    case round =>
      obtain ⟨k, hk, rfl, hok⟩ := hrel
      replace hok := Lib.hid hok
      by_cases hlt : k < n
      · have x0 := hc.out k hlt
        have hi0 : (0 : Int) ≤ (k : Int) := by omega
        have hi1 : (k : Int) < (n : Int) := by omega
        by_cases g1 : nth xs k < 1
        · go_wp2
          go_ret
          exact Only.mk (ret_dec (by simp only [Bool.false_eq_true, false_iff, hr.out]; intro h; have := h k hlt; omega))
        · by_cases g2 : 12 < nth xs k
          · go_wp2
            go_ret
            exact Only.mk (ret_dec (by simp only [Bool.false_eq_true, false_iff, hr.out]; intro h; have := h k hlt; omega))
          · go_wp2
            go_round
            case rel => exact ⟨k + 1, by omega, by go_num, fun j hj => (by
              by_cases hjk : j = k
              · subst hjk; omega
              · exact hok.out j (by omega))⟩
            case measure => simp [intOf]; omega
      · go_wp2
        go_ret
        exact Only.mk (ret_dec (by simp only [true_iff, hr.out]; exact fun i hi => hok.out i (by omega)))
  · rw [decide_eq_false (show ¬ RoundP xs from fun h => hh ⟨by have := h.1; omega, by have := h.2.1; omega⟩)]
    clear h hn
    by_cases h3 : n < 3
    · clear hh
      go_enter Try.func18, Try.ntmps18
      go_wp2
      go_ret
      exact Only.mk rfl
    · have h12 : 12 < n := by omega
      clear hh
      go_enter Try.func18, Try.ntmps18
      go_wp2
      go_ret
      exact Only.mk rfl
set_option maxRecDepth 100000 in
set_option maxHeartbeats 800000 in
theorem isEar_any (b off n c cp : Nat) (xs : List Int) (w : World) (hn : xs.length = n) (h1 : 1 ≤ n) (h12 : n ≤ 12) (hc : c < n) (h : ∀ i, i < n → w.cell? ⟨b, off + i, none⟩ = some (.int .i64 (nth xs i))) :
    Calls Try.prog 43 #[.slice (some ⟨b, off, none⟩) n cp, .int .i64 c] w (Only (.bool (decide (EarP xs c))) w) := by
  have x0 := h c hc
  have x1 := h ((c + n - 1) % n) (Nat.mod_lt _ (by omega))
  have x2 := h ((c + 1) % n) (Nat.mod_lt _ (by omega))
  obtain ⟨m0, m1, m2⟩ := mod_ahead c n (by omega)
  obtain ⟨m3, m4, m5⟩ := mod_at1 c n (by omega)
  have hE : Hid (EarP xs c ↔ nth xs c = 1 ∧ 1 < nth xs ((c + n - 1) % n) ∧ 1 < nth xs ((c + 1) % n)) := by rw [← hn]; exact Lib.hid Iff.rfl
  clear h hn
  have hc0 : (c : Int) < (n : Int) := by omega
  have A := fun W => ahead_any n c W (by omega) (by omega) (by omega) (by omega)
  have B := fun W => after_any n c W (by omega) (by omega) (by omega)
  cases g1 : (nth xs c == 1)
  · have G1 := Lib.hid g1
    go_enter Try.func43, Try.ntmps43
    go_wp2
    go_ret
    exact Only.mk (ret_dec (by simp only [Bool.false_eq_true, false_iff, hE.out]; intro h; have := G1.out; rw [h.1] at this; simp at this))
  · have G1 := Lib.hid (show nth xs c = 1 by simpa using g1)
    by_cases g2 : 1 < nth xs ((c + n - 1) % n)
    · by_cases g3 : 1 < nth xs ((c + 1) % n)
      all_goals
        go_enter Try.func43, Try.ntmps43
        go_wp2_with (first
          | (go_at_call 32; refine (A _).mono ?_; rintro e w1 ⟨rfl, rfl⟩)
          | (go_at_call 21; refine (B _).mono ?_; rintro e w1 ⟨rfl, rfl⟩))
        go_ret
        exact Only.mk (ret_dec (by simp only [decide_eq_true_eq, true_iff, hE.out]; have := G1.out; omega))
    · go_enter Try.func43, Try.ntmps43
      go_wp2_with (go_at_call 32; refine (A _).mono ?_; rintro e w1 ⟨rfl, rfl⟩)
      go_ret
      exact Only.mk (ret_dec (by simp only [Bool.false_eq_true, false_iff, hE.out]; omega))
/-- The first ear, or none. -/
def FoundEar (xs : List Int) (r : Int) : Prop := (∃ c : Nat, r = c ∧ c < xs.length ∧ EarP xs c ∧ ∀ j, j < c → ¬ EarP xs j) ∨ (r = -1 ∧ ∀ j, j < xs.length → ¬ EarP xs j)
set_option maxRecDepth 100000 in
set_option maxHeartbeats 800000 in
theorem findEar_any (b off n cp : Nat) (xs : List Int) (w : World) (hn : xs.length = n) (h1 : 1 ≤ n) (h12 : n ≤ 12) (h : ∀ i, i < n → w.cell? ⟨b, off + i, none⟩ = some (.int .i64 (nth xs i))) :
    Calls Try.prog 31 #[.slice (some ⟨b, off, none⟩) n cp] w fun e w' => ∃ r, e = .returned (.int .i64 r) ∧ FoundEar xs r ∧ w = w' := by
  have E := fun c (hc : c < n) => isEar_any b off n c cp xs w hn h1 h12 hc h
  replace E := Lib.hid E
  replace hn := Lib.hid hn
  clear h
  go_enter Try.func31, Try.ntmps31
  go_wp2
  go_loop [3, 6] (fun v i => ∃ k : Nat, k ≤ n ∧ i = .int .i64 k ∧ (∀ j, j < k → ¬ EarP xs j)) (fun _ i => n - (intOf i).toNat)
  case atStart => exact ⟨0, by omega, rfl, fun j hj => absurd hj (by omega)⟩
  case round =>
    obtain ⟨k, hk, rfl, hok⟩ := hrel
    replace hok := Lib.hid hok
    by_cases hlt : k < n
    · have hi0 : (0 : Int) ≤ (k : Int) := by omega
      have hi1 : (k : Int) < (n : Int) := by omega
      have K := E.out k hlt
      cases g : decide (EarP xs k)
      · rw [g] at K
        have g' := Lib.hid (of_decide_eq_false g)
        clear g
        go_wp2_with (go_at_call 43; refine K.mono ?_; rintro e w1 ⟨rfl, rfl⟩)
        go_round
        case rel => exact ⟨k + 1, by omega, by go_num, fun j hj => (by
          by_cases hjk : j = k
          · subst hjk; exact g'.out
          · exact hok.out j (by omega))⟩
        case measure => simp [intOf]; omega
      · rw [g] at K
        have g' := Lib.hid (of_decide_eq_true g)
        clear g
        go_wp2_with (go_at_call 43; refine K.mono ?_; rintro e w1 ⟨rfl, rfl⟩)
        go_ret
        exact ⟨_, rfl, .inl ⟨k, rfl, by rw [hn.out]; exact hlt, g'.out, hok.out⟩, rfl⟩
    · go_wp2
      go_ret
      exact ⟨_, rfl, .inr ⟨rfl, fun j hj => hok.out j (by rw [hn.out] at hj; omega)⟩, rfl⟩
end
end Go.Proofs.Ytkbdclladfjmcaa
