/- Layer 2: rows of the call's own: stores, cuts; slices.Clone and slices.Delete. Layer 2: slices.Delete of one element; a list without an ear. Layer 2: sorted lists of pairs; cells of pairs. Layer 2: the library's insertion sort, handed the order of lines. -/
import Derived.Test.YtkbdclladfjmcaaBo
import Derived.Deep.RegionLaw
import Derived.Lib.SliceRun
import Derived.Lib.LazyBuf
namespace Go.Proofs.Ytkbdclladfjmcaa
section
open Go Go.RowKit

/-- xs, and from place o on the values vs. -/
def layL (xs : List Value) (o : Nat) : List Value → List Value
  | [] => xs
  | v :: vs => layL (xs.set o v) (o + 1) vs
theorem layL_get : ∀ (vs : List Value) (xs : List Value) (o t : Nat), o + vs.length ≤ xs.length → (layL xs o vs)[t]? = if o ≤ t ∧ t < o + vs.length then vs[t - o]? else xs[t]? := by
  intro vs
  induction vs with
  | nil => intro xs o t h; rw [layL, if_neg (by simp only [List.length_nil]; omega)]
  | cons v vs ih =>
    intro xs o t h
    simp only [List.length_cons] at h
    rw [layL, ih _ _ _ (by simp; omega), List.getElem?_set]
    simp only [List.length_cons]
    by_cases h1 : o = t
    · subst h1
      rw [if_neg (by omega), if_pos rfl, if_pos (by omega), if_pos (by omega), Nat.sub_self]
      rfl
    · by_cases h2 : o + 1 ≤ t ∧ t < o + 1 + vs.length
      · rw [if_pos h2, if_pos (by omega), show t - o = (t - (o + 1)) + 1 by omega]
        simp
      · rw [if_neg h2, if_neg h1, if_neg (by omega)]
section
variable {w : World} {base : Nat} {e : TypeId} {size : Nat} {g n cap : Nat} {xs : List Value}
theorem own_setCells : ∀ (vs : List Value) (o : Nat) (xs : List Value) (w : World), w.ownsRow base e size (.slice (some ⟨g, 0, none⟩) n cap) n xs →
    (w.setCells g o vs).ownsRow base e size (.slice (some ⟨g, 0, none⟩) n cap) n (layL xs o vs) ∧ w.grownBy (w.setCells g o vs) (some g) := by
  intro vs
  induction vs with
  | nil => intro o xs w h; exact ⟨h, rfl, rfl, rfl, Nat.le_refl _, fun _ _ _ => rfl⟩
  | cons v vs ih =>
    intro o xs w h
    obtain ⟨h1, h2⟩ := h.stored o v
    obtain ⟨h3, h4⟩ := ih (o + 1) _ _ h1
    exact ⟨h3, h4.os.trans h2.os, h4.tape.trans h2.tape, h4.output.trans h2.output, Nat.le_trans h2.size h4.size, fun k hk hne => (h4.block k (Nat.lt_of_lt_of_le hk h2.size) hne).trans (h2.block k hk hne)⟩
theorem own_take (h : w.ownsRow base e size (.slice (some ⟨g, 0, none⟩) n cap) n xs) (m : Nat) (hm : m ≤ n) : w.ownsRow base e size (.slice (some ⟨g, 0, none⟩) m cap) m (xs.take (m * size)) := by
  have hl := Nat.mul_le_mul_right size hm
  refine ⟨by rw [List.length_take, h.1]; omega, ?_⟩
  rcases h.2 with ⟨h', _⟩ | ⟨g', cap', cur, h', hb, hg, hnc, hcm, hcs, htake⟩
  · simp at h'
  · simp only [Value.slice.injEq, Option.some.injEq, Addr.mk.injEq, and_true, true_and] at h'
    obtain ⟨rfl, rfl⟩ := h'
    exact .inr ⟨g, cap, cur, rfl, hb, hg, by omega, hcm, hcs, by rw [← htake, List.take_take, Nat.min_eq_left hl]⟩
theorem own_isSome (h : w.ownsRow base e size (.slice (some ⟨g, 0, none⟩) n cap) n xs) (j : Nat) (hj : j < n * size) : (w.cell? ⟨g, j, none⟩).isSome = true := by
  rw [h.cellAt j hj, List.getElem?_eq_getElem (by rw [h.1]; exact hj)]; rfl
theorem own_cap (h : w.ownsRow base e size (.slice (some ⟨g, 0, none⟩) n cap) n xs) : n ≤ cap ∧ cap ≤ maxLen := by
  rcases h.2 with ⟨h', _⟩ | ⟨g', cap', cur, h', hb, hg, hnc, hcm, hcs, htake⟩
  · simp at h'
  · simp only [Value.slice.injEq, Option.some.injEq, Addr.mk.injEq, and_true, true_and] at h'
    obtain ⟨rfl, rfl⟩ := h'
    exact ⟨hnc, hcm⟩
theorem own_drew {v : Value} (h : w.ownsRow base e size v n xs) : w.drew.ownsRow base e size v n xs := h
end
/-- The list's cells, as a list. -/
def lI (xs : List Int) : List Value := xs.map (Value.int .i64)
theorem lI_length (xs : List Int) : (lI xs).length = xs.length := by simp [lI]
theorem lI_get {xs : List Int} {i : Nat} (h : i < xs.length) : (lI xs)[i]? = some (.int .i64 (nth xs i)) := by simp [lI, nth, h]
theorem own_ints {w : World} {base g n cap : Nat} {e : TypeId} {xs : List Int} (h : w.ownsRow base e 1 (.slice (some ⟨g, 0, none⟩) n cap) n (lI xs)) : xs.length = n ∧ ∀ i, i < n → w.cell? ⟨g, 0 + i, none⟩ = some (.int .i64 (nth xs i)) := by
  have hl : xs.length = n := by have := h.1; rw [lI_length] at this; omega
  exact ⟨hl, fun i hi => by rw [Nat.zero_add, h.cellAt i (by omega), lI_get (by omega)]⟩
theorem erase_take {X : List Value} {n i : Nat} {z : Value} (hl : X.length = n) (hi : i < n) : (layL (layL X i (X.drop (i + 1))) (n - 1) [z]).take (n - 1) = X.eraseIdx i := by
  have l1 : (layL X i (X.drop (i + 1))).length = n := by
    have : ∀ (vs xs : List Value) (o : Nat), (layL xs o vs).length = xs.length := by
      intro vs
      induction vs with
      | nil => intros; rfl
      | cons v vs ih => intro xs o; rw [layL, ih]; simp
    rw [this, hl]
  apply List.ext_getElem?
  intro t
  rw [List.getElem?_take, List.getElem?_eraseIdx]
  by_cases ht : t < n - 1
  · rw [if_pos (by omega), layL_get _ _ _ _ (by rw [l1]; simp; omega), if_neg (by omega), layL_get _ _ _ _ (by simp; omega)]
    by_cases h2 : t < i
    · rw [if_neg (by omega), if_pos h2]
    · rw [if_pos (by simp; omega), if_neg h2, List.getElem?_drop, show i + 1 + (t - i) = t + 1 by omega]
  · rw [if_neg (by omega)]
    split
    · rw [List.getElem?_eq_none (by omega)]
    · rw [List.getElem?_eq_none (by omega)]

set_option maxRecDepth 100000 in
set_option maxHeartbeats 1600000 in
theorem clone_any (b off n c : Nat) (xs : List Int) (w : World) (hl : xs.length = n) (h1 : 1 ≤ n) (h60 : n ≤ 1000)
    (hc : ∀ i, i < n → w.cell? ⟨b, off + i, none⟩ = some (.int .i64 (nth xs i))) :
    Calls Try.prog 44 #[.slice (some ⟨b, off, none⟩) n c] w fun e w' => ∃ g cap, e = .returned (.slice (some ⟨g, 0, none⟩) n cap) ∧
      w'.ownsRow w.heap.size 3 1 (.slice (some ⟨g, 0, none⟩) n cap) n (lI xs) ∧ Below w.heap.size w w' := by
  obtain ⟨i0, hi, hz0, hz1, hz2⟩ := info_parts infoInt
  have G0 := Lib.hid hi
  have G1 := Lib.hid hz0
  have G2 := Lib.hid hz1
  have G3 := Lib.hid hz2
  clear hi hz0 hz1 hz2
  have hcc : Hid (∀ j u, (lI xs)[j]? = some u → w.cell? (Addr.add ⟨b, off, none⟩ j) = some u) := Lib.hid (fun j u hj => by
    have hjl : j < xs.length := by have := (List.getElem?_eq_some_iff.1 hj).1; rwa [lI_length] at this
    rw [lI_get hjl] at hj
    rw [show Addr.add ⟨b, off, none⟩ j = ⟨b, off + j, none⟩ by simp [Addr.add], hc j (by omega)]
    exact hj)
  have hlen : Hid ((lI xs).length = n * 1) := Lib.hid (by rw [lI_length]; omega)
  have hone : Hid (∀ u ∈ lI xs, u.oneCell' = true) := Lib.hid (fun u hu => by
    obtain ⟨x, _, rfl⟩ := List.mem_map.1 hu
    rfl)
  clear hc hl
  have qT : ∀ (w : World) (a : Option Addr) (n c : Nat), (binOp .eql 35 (.slice a n c) (.slice none 0 0)).run Try.prog w = .ok (.bool a.isNone) w := fun w a n c => run_eql_slice_nil w _ 3 a n c Try.underlying35
  obtain ⟨m, rfl⟩ : ∃ m, n = m + 1 := ⟨n - 1, by omega⟩
  go_enter Try.func44, Try.ntmps44
  go_wp2_with (at_builtin; refine wpList_append_own _ rfl _ _ 35 rfl w.heap.size 3 i0 (.int .i64 0) 1 8 Try.underlying35 G0.out G1.out G2.out G3.out rfl (by decide) _ _ _ rfl (World.ownsRow_made w #[] 0 (Nat.le_refl _) (by decide) rfl) ⟨b, off, none⟩ (m + 1) c (lI xs) rfl hlen.out (fun j u hj => cellB (b1 _ _) (hcc.out j u hj)) hone.out (by unfold maxLen; omega) (by omega) (by simp) ?_; intro v' w2 hown hgrow _; rw [Nat.zero_add, List.nil_append] at hown; obtain ⟨g', cap', rfl⟩ := ownsRow_succ hown)
  go_ret
  exact ⟨g', cap', rfl, hown, ((Below.refl _ _).alloc (Nat.le_refl _) _).grown hgrow (by simp) (fun _ h => by cases h; exact Nat.le_refl _)⟩
end
section
open Go Go.RowKit

theorem zeroI : ∀ w, (zeroValue 3).run Try.prog w = .ok (.int .i64 0) w := fun _ => by kernel_rfl
set_option maxRecDepth 100000 in
set_option maxHeartbeats 4000000 in
theorem delete_any (base g n cap i : Nat) (X : List Value) (w : World) (hown : w.ownsRow base 3 1 (.slice (some ⟨g, 0, none⟩) n cap) n X) (h1X : ∀ u ∈ X, u.oneCell' = true) (hi : i < n) (h60 : n ≤ 1000) :
    Calls Try.prog 34 #[.slice (some ⟨g, 0, none⟩) n cap, .int .i64 i, .int .i64 ((i : Int) + 1)] w fun e w' => e = .returned (.slice (some ⟨g, 0, none⟩) (n - 1) cap) ∧
      w'.ownsRow base 3 1 (.slice (some ⟨g, 0, none⟩) (n - 1) cap) (n - 1) (X.eraseIdx i) ∧ w.grownBy w' (some g) := by
  obtain ⟨i0, hi0, hz0, hz1, hz2⟩ := info_parts infoInt
  have G0 := Lib.hid hi0
  have G2 := Lib.hid hz1
  clear hi0 hz0 hz1 hz2
  obtain ⟨hcap, hcm⟩ := own_cap hown
  unfold maxLen at hcm
  have hXl : X.length = n := by have := hown.1; omega
  obtain ⟨news, hnews⟩ : ∃ news, news = X.drop (i + 1) := ⟨_, rfl⟩
  have hlen : news.length = n - (i + 1) := by rw [hnews]; simp; omega
  obtain ⟨A, hA, hsrc⟩ : ∃ A : Addr, (if cap = i + 1 then some (⟨g, 0, none⟩ : Addr) else some ⟨g, i + 1, none⟩) = some A ∧ Hid (∀ t u, news[t]? = some u → w.drew.cell? (A.add t) = some u) := by
    by_cases h : cap = i + 1
    · refine ⟨⟨g, 0, none⟩, by simp [h], fun t u hu => ?_⟩
      have h0 : news.length = 0 := by rw [hlen]; omega
      rw [List.length_eq_zero_iff.1 h0] at hu
      simp at hu
    · refine ⟨⟨g, i + 1, none⟩, by simp [h], fun t u hu => ?_⟩
      have ht : t < n - (i + 1) := by
        have := (List.getElem?_eq_some_iff.1 hu).1
        rwa [hlen] at this
      rw [hnews, List.getElem?_drop] at hu
      rw [show Addr.add ⟨g, i + 1, none⟩ t = ⟨g, i + 1 + t, none⟩ by simp [Addr.add]]
      show w.cell? _ = _
      rw [hown.cellAt _ (by omega)]
      exact hu
  have s1 := Lib.hid (show news.length = (n - (i + 1)) * 1 by rw [Nat.mul_one]; exact hlen)
  have s2 := Lib.hid (show ∀ u ∈ news, u.oneCell' = true from fun u hu => h1X u (List.mem_of_mem_drop (hnews ▸ hu)))
  have s3 := Lib.hid (show ∀ t, t < news.length → (w.drew.cell? ⟨g, 0 + i * 1 + t, none⟩).isSome = true ∧ w.drew.frozen? ⟨g, 0 + i * 1 + t, none⟩ = false from fun t ht => by
    rw [hlen] at ht
    exact ⟨own_isSome (own_drew hown) _ (by omega), (own_drew hown).frozenAt _⟩)
  obtain ⟨W1, hW1⟩ : ∃ W1, W1 = w.drew.setCells g (0 + i * 1) news := ⟨_, rfl⟩
  obtain ⟨o1, o2⟩ := own_setCells news (0 + i * 1) X w.drew (own_drew hown)
  rw [← hW1] at o1 o2
  have hcl : ∀ ty, (Builtin.clear_ #[35] ty #[.slice (some ⟨g, i + (n - (i + 1)), none⟩) (n - (i + (n - (i + 1)))) (cap - (i + (n - (i + 1))))]).run Try.prog W1 = .ok (.tuple #[]) (W1.setCells g (i + (n - (i + 1))) (List.replicate (n - (i + (n - (i + 1)))) (.int .i64 0))) :=
    fun ty => Lib.run_clear_slice W1 _ _ ty _ Try.underlying35 zeroI rfl rfl g (i + (n - (i + 1))) _ _ (by omega) (fun t ht => own_isSome o1 _ (by omega)) (fun t ht => o1.frozenAt _)
  obtain ⟨p1, p2⟩ := own_setCells (List.replicate (n - (i + (n - (i + 1)))) (.int .i64 0)) (i + (n - (i + 1))) _ W1 o1
  have P1 : Hid ((W1.setCells g (i + (n - (i + 1))) (List.replicate (n - (i + (n - (i + 1)))) (.int .i64 0))).ownsRow base 3 1 (.slice (some ⟨g, 0, none⟩) (n - 1) cap) (n - 1) (X.eraseIdx i)) := by
    have := own_take p1 (n - 1) (by omega)
    rw [show n - (i + (n - (i + 1))) = 1 by omega, show i + (n - (i + 1)) = n - 1 by omega, hnews] at this
    simp only [Nat.zero_add, Nat.mul_one, List.replicate_one] at this
    rw [erase_take hXl hi] at this
    rw [show n - (i + (n - (i + 1))) = 1 by omega, show i + (n - (i + 1)) = n - 1 by omega]
    exact this
  have P2 : Hid (w.grownBy (W1.setCells g (i + (n - (i + 1))) (List.replicate (n - (i + (n - (i + 1)))) (.int .i64 0))) (some g)) := ⟨p2.os.trans o2.os, p2.tape.trans o2.tape, p2.output.trans o2.output, Nat.le_trans o2.size p2.size, fun k hk hne => (p2.block k (Nat.lt_of_lt_of_le hk o2.size) hne).trans (o2.block k hk hne)⟩
  have hW := Lib.hid hW1
  have hic : i ≤ cap := by omega
  have hjc : i + 1 ≤ cap := by omega
  have hne : ((i : Int) == (i : Int) + 1) = false := by rw [beq_eq_false_iff_ne]; omega
  have w1 : (i : Int) + 1 ≤ (n : Int) := by omega
  have w2 : (0 : Int) ≤ (i : Int) + 1 := by omega
  have w3 : ((i : Int) + 1).toNat = i + 1 := by omega
  have hx1 := Lib.hid hXl
  clear hW1 o1 o2 p1 p2 hown hnews hlen hXl h1X
  go_enter Try.func34, Try.ntmps34
  go_wp2_with fail
  go_region_law (refine step_append_room rfl (.tmp 22) (.tmp 25) 35 rfl 3 i0 1 Try.underlying35 G0.out G2.out g 0 i cap (by simp [Act.eval, Act.put]) A (n - (i + 1)) (cap - (i + 1)) news (by simp [Act.eval, Act.put]) s1.out hsrc.out s2.out (by omega) s3.out ?_; rw [← hW.out])
  go_wp2
  go_ret
  exact ⟨by rw [show n - 1 = i + (n - (i + 1)) by omega]; rfl, P1.out, P2.out⟩
/-- The list without the number at c, whose neighbours are made less by 1. -/
def cutL (xs : List Int) (c : Nat) : List Int :=
  let n := xs.length
  let ys := xs.set ((c + n - 1) % n) (nth xs ((c + n - 1) % n) - 1)
  let zs := ys.set ((c + 1) % n) (nth ys ((c + 1) % n) - 1)
  zs.eraseIdx c
theorem lI_set (xs : List Int) (i : Nat) (v : Int) : (lI xs).set i (.int .i64 v) = lI (xs.set i v) := by simp [lI, List.map_set]
theorem lI_erase (xs : List Int) (i : Nat) : (lI xs).eraseIdx i = lI (xs.eraseIdx i) := by
  unfold lI
  induction xs generalizing i with
  | nil => rfl
  | cons x xs ih => cases i with
    | zero => rfl
    | succ i => simp [ih]
theorem lI_one (xs : List Int) : ∀ u ∈ lI xs, u.oneCell' = true := fun u hu => by
  obtain ⟨x, _, rfl⟩ := List.mem_map.1 hu
  rfl
/-- All numbers are from 0 to 1000. -/
def Fair (xs : List Int) : Prop := ∀ i, i < xs.length → 0 ≤ nth xs i ∧ nth xs i ≤ 1000
set_option maxRecDepth 100000 in
set_option maxHeartbeats 1600000 in
theorem cut_any (b off n cp c : Nat) (xs : List Int) (w : World) (hl : xs.length = n) (h1 : 3 ≤ n) (h12 : n ≤ 12) (hcn : c < n) (hf : Fair xs)
    (hc : ∀ i, i < n → w.cell? ⟨b, off + i, none⟩ = some (.int .i64 (nth xs i))) :
    Calls Try.prog 33 #[.slice (some ⟨b, off, none⟩) n cp, .int .i64 c] w fun e w' => ∃ g cap, e = .returned (.slice (some ⟨g, 0, none⟩) (n - 1) cap) ∧
      w'.ownsRow w.heap.size 3 1 (.slice (some ⟨g, 0, none⟩) (n - 1) cap) (n - 1) (lI (cutL xs c)) ∧ Below w.heap.size w w' := by
  have C := Lib.hid (clone_any b off n cp xs w hl (by omega) (by omega) hc)
  obtain ⟨m0, m1, m2⟩ := mod_ahead c n (by omega)
  obtain ⟨m3, m4, m5⟩ := mod_at1 c n (by omega)
  have ha : (c + n - 1) % n < n := Nat.mod_lt _ (by omega)
  have hb : (c + 1) % n < n := Nat.mod_lt _ (by omega)
  have hcut : Hid (cutL xs c = ((xs.set ((c + n - 1) % n) (nth xs ((c + n - 1) % n) - 1)).set ((c + 1) % n) (nth (xs.set ((c + n - 1) % n) (nth xs ((c + n - 1) % n) - 1)) ((c + 1) % n) - 1)).eraseIdx c) := by
    subst hl; exact Lib.hid rfl
  have A := fun W => ahead_any n c W (by omega) (by omega) (by omega) (by omega)
  have B := fun W => after_any n c W (by omega) (by omega) (by omega)
  obtain ⟨x, hx⟩ : ∃ x, x = nth xs ((c + n - 1) % n) := ⟨_, rfl⟩
  obtain ⟨ys, hys⟩ : ∃ ys, ys = xs.set ((c + n - 1) % n) (x - 1) := ⟨_, rfl⟩
  obtain ⟨y, hy⟩ : ∃ y, y = nth ys ((c + 1) % n) := ⟨_, rfl⟩
  rw [← hx, ← hys, ← hy] at hcut
  have hyl : ys.length = n := by rw [hys]; simp [hl]
  have hx0 := hf _ (show (c + n - 1) % n < xs.length by omega)
  rw [← hx] at hx0
  have hy0 : -1 ≤ y ∧ y ≤ 1000 := by
    rw [hy, hys, nth_set (by omega)]
    split
    · omega
    · have := hf _ (show (c + 1) % n < xs.length by omega); omega
  obtain ⟨hx1, hx2⟩ := hx0
  obtain ⟨hy1, hy2⟩ := hy0
  have g1 : Hid ((lI xs)[(c + n - 1) % n]? = some (.int .i64 x)) := Lib.hid (by rw [lI_get (by omega), hx])
  have g2 : Hid ((lI ys)[(c + 1) % n]? = some (.int .i64 y)) := Lib.hid (by rw [lI_get (by omega), hy])
  have gs : Hid ((lI xs).set ((c + n - 1) % n) (.int .i64 (x - 1)) = lI ys) := Lib.hid (by rw [lI_set, hys])
  have gz : Hid (((lI ys).set ((c + 1) % n) (.int .i64 (y - 1))).eraseIdx c = lI (cutL xs c)) := Lib.hid (by rw [lI_set, lI_erase, hcut.out])
  clear hx hys hy hcut hf hc hl hyl
  go_enter Try.func33, Try.ntmps33
  go_wp2_with (first
    | (go_at_call 44; refine C.out.mono ?_; rintro e w1 ⟨g, cap, rfl, hown, B0⟩; have e1 := hown.cellAt ((c + n - 1) % n) (by omega); rw [g1.out] at e1; have f1 := hown.frozenAt ((c + n - 1) % n))
    | (go_at_call 32; refine (A _).mono ?_; rintro e w1 ⟨rfl, rfl⟩))
  have hw1 : w.heap.size ≤ g ∧ g < w1.heap.size := hown.lt g rfl
  have st := hown.stored ((c + n - 1) % n) (.int .i64 (x - 1))
  rw [gs.out] at st
  refine calls_at (F := fun W => W.ownsRow w.heap.size 3 1 (.slice (some ⟨g, 0, none⟩) n cap) n (lI ys) ∧ Below w.heap.size w W) ⟨st.1, B0.setCell (p := ⟨g, _, none⟩) hw1.1 _⟩ ?_
  clear st hown B0 e1 f1
  rintro W2 ⟨hown, B0⟩
  refine (B _).mono ?_
  rintro e w2 ⟨rfl, rfl⟩
  dsimp only
  have e1 := hown.cellAt ((c + 1) % n) (by omega)
  rw [g2.out] at e1
  have f1 := hown.frozenAt ((c + 1) % n)
  have hw2 := hown.lt _ rfl
  go_wp2_with fail
  have st := hown.stored ((c + 1) % n) (.int .i64 (y - 1))
  refine calls_at (F := fun W => W.ownsRow w.heap.size 3 1 (.slice (some ⟨g, 0, none⟩) n cap) n ((lI ys).set ((c + 1) % n) (.int .i64 (y - 1))) ∧ Below w.heap.size w W) ⟨st.1, B0.setCell (p := ⟨g, _, none⟩) hw1.1 _⟩ ?_
  clear st hown B0 e1 f1 hw2
  rintro W3 ⟨hown, B0⟩
  refine (delete_any w.heap.size g n cap c _ W3 hown (by rw [lI_set]; exact lI_one _) hcn (by omega)).mono ?_
  rintro e w3 ⟨rfl, hown3, hg3⟩
  rw [gz.out] at hown3
  dsimp only
  go_wp2
  go_ret
  have hsz := B0.size
  exact ⟨g, cap, rfl, hown3, B0.grown hg3 (by omega) (fun k hk => by cases hk; exact hw1.1)⟩
end
section
open Go Go.RowKit

/-- Not behind. -/
def LeP (p q : Int × Int) : Prop := ¬ LexP q p
theorem LeP.trans {a b c : Int × Int} (h : LeP a b) (k : LeP b c) : LeP a c := by unfold LeP LexP at *; omega
theorem LeP.anti {a b : Int × Int} (h : LeP a b) (k : LeP b a) : a = b := by
  unfold LeP LexP at *
  exact Prod.ext (by omega) (by omega)
theorem LexP.le {a b : Int × Int} (h : LexP a b) : LeP a b := by unfold LeP LexP at *; omega
/-- In order. -/
def SortedP (L : List (Int × Int)) : Prop := ∀ i j, i < j → j < L.length → LeP (pth L i) (pth L j)
theorem pth_get {L : List (Int × Int)} {i : Nat} (h : i < L.length) : pth L i = L[i] := by simp [pth, h]
theorem sortedP_pair {L : List (Int × Int)} : SortedP L ↔ L.Pairwise LeP := by
  rw [List.pairwise_iff_getElem]
  constructor
  · intro h i j hi hj hij
    have := h i j hij hj
    rwa [pth_get hi, pth_get hj] at this
  · intro h i j hij hj
    rw [pth_get (by omega), pth_get hj]
    exact h i j (by omega) hj hij
/-- There is one list in order. -/
theorem sorted_one {L M : List (Int × Int)} (hL : SortedP L) (hM : SortedP M) (h : L.Perm M) : L = M :=
  h.eq_of_pairwise (fun _ _ _ _ h1 h2 => h1.anti h2) (sortedP_pair.1 hL) (sortedP_pair.1 hM)
theorem pth_set {L : List (Int × Int)} {i k : Nat} {v : Int × Int} (hi : i < L.length) : pth (L.set i v) k = if k = i then v else pth L k := by
  unfold pth
  rw [List.getD_eq_getElem?_getD, List.getD_eq_getElem?_getD, List.getElem?_set]
  by_cases h : i = k
  · subst h; simp [hi]
  · rw [if_neg h, if_neg (fun e => h e.symm)]
/-- Two neighbours change places. -/
def swapL (L : List (Int × Int)) (j : Nat) : List (Int × Int) := (L.set j (pth L (j - 1))).set (j - 1) (pth L j)
theorem swapL_length (L : List (Int × Int)) (j : Nat) : (swapL L j).length = L.length := by simp [swapL]
theorem swapL_perm {L : List (Int × Int)} {j : Nat} (hj : j < L.length) : (swapL L j).Perm L := by
  unfold swapL
  rw [pth_get hj, pth_get (by omega)]
  exact List.set_set_perm hj (by omega)
theorem swapL_get {L : List (Int × Int)} {j k : Nat} (hj : j < L.length) (h0 : 0 < j) : pth (swapL L j) k = if k = j - 1 then pth L j else if k = j then pth L (j - 1) else pth L k := by
  unfold swapL
  rw [pth_set (by simp; omega), pth_set hj]
/-- In order up to i, but for what stands at j. -/
def Almost (L : List (Int × Int)) (i j : Nat) : Prop := ∀ x y, x < y → y ≤ i → y ≠ j → LeP (pth L x) (pth L y)
theorem almost_swap {L : List (Int × Int)} {i j : Nat} (h : Almost L i j) (hi : i < L.length) (hj : j ≤ i) (h0 : 0 < j) (hlt : LexP (pth L j) (pth L (j - 1))) : Almost (swapL L j) i (j - 1) := by
  intro x y hxy hy hne
  rw [swapL_get (by omega) h0, swapL_get (by omega) h0, if_neg hne]
  by_cases e1 : y = j
  · subst e1
    rw [if_pos rfl]
    by_cases e2 : x = y - 1
    · rw [if_pos e2]; exact hlt.le
    · rw [if_neg e2, if_neg (by omega)]
      exact h x (y - 1) (by omega) (by omega) (by omega)
  · rw [if_neg e1]
    by_cases e2 : x = j - 1
    · rw [if_pos e2]; exact h j y (by omega) hy e1
    · rw [if_neg e2]
      by_cases e3 : x = j
      · rw [if_pos e3]; exact h (j - 1) y (by omega) hy e1
      · rw [if_neg e3]; exact h x y hxy hy e1
theorem almost_done {L : List (Int × Int)} {i j : Nat} (h : Almost L i j) (hs : j = 0 ∨ ¬ LexP (pth L j) (pth L (j - 1))) : ∀ x y, x < y → y ≤ i → LeP (pth L x) (pth L y) := by
  intro x y hxy hy
  by_cases e : y = j
  · subst e
    rcases hs with hs | hs
    · omega
    · by_cases e2 : x = y - 1
      · rw [e2]; exact hs
      · exact (h x (y - 1) (by omega) (by omega) (by omega)).trans hs
  · exact h x y hxy hy e
theorem almost_start {L : List (Int × Int)} {i : Nat} (h : ∀ x y, x < y → y < i → LeP (pth L x) (pth L y)) : Almost L i i := fun x y hxy hy hne => h x y hxy (by omega)
/-- The cells of pairs. -/
def cP (L : List (Int × Int)) : List Value := L.flatMap fun q => [.int .i64 q.1, .int .i64 q.2]
theorem cP_append (L M : List (Int × Int)) : cP (L ++ M) = cP L ++ cP M := by simp [cP]
theorem cP_length (L : List (Int × Int)) : (cP L).length = L.length * 2 := by
  induction L with
  | nil => rfl
  | cons t T ih => rw [cP, List.flatMap_cons, List.length_append, ← cP, ih, List.length_cons]; simp; omega
theorem cP_at (L : List (Int × Int)) (i : Nat) (h : i < L.length) : (cP L)[i * 2]? = some (.int .i64 (pth L i).1) ∧ (cP L)[i * 2 + 1]? = some (.int .i64 (pth L i).2) := by
  induction L generalizing i with
  | nil => simp at h
  | cons t T ih =>
    have e : cP (t :: T) = [.int .i64 t.1, .int .i64 t.2] ++ cP T := by simp [cP]
    rw [e]
    cases i with
    | zero => simp [pth]
    | succ i =>
      simp only [List.length_cons] at h
      have hi := ih i (by omega)
      have et : pth (t :: T) (i + 1) = pth T i := by simp [pth]
      rw [et, List.getElem?_append_right (by simp; omega), List.getElem?_append_right (by simp; omega)]
      simp only [List.length_cons, List.length_nil]
      rw [show (i + 1) * 2 - (0 + 1 + 1) = i * 2 by omega, show (i + 1) * 2 + 1 - (0 + 1 + 1) = i * 2 + 1 by omega]
      exact hi
theorem cP_set (L : List (Int × Int)) (i : Nat) (q : Int × Int) (h : i < L.length) : ((cP L).set (i * 2) (.int .i64 q.1)).set (i * 2 + 1) (.int .i64 q.2) = cP (L.set i q) := by
  induction L generalizing i with
  | nil => simp at h
  | cons t T ih =>
    have e : ∀ (t : Int × Int) T, cP (t :: T) = .int .i64 t.1 :: .int .i64 t.2 :: cP T := fun t T => by simp [cP]
    cases i with
    | zero => simp [e]
    | succ i =>
      simp only [List.length_cons] at h
      rw [List.set_cons_succ, e, e, show (i + 1) * 2 = i * 2 + 1 + 1 by omega, show i * 2 + 1 + 1 + 1 = (i * 2 + 1) + 1 + 1 by omega]
      simp only [List.set_cons_succ]
      rw [ih i (by omega)]
theorem cP_one (L : List (Int × Int)) : ∀ u ∈ cP L, u.oneCell' = true := fun u hu => by
  simp only [cP, List.mem_flatMap, List.mem_cons, List.not_mem_nil, or_false] at hu
  obtain ⟨i, _, h | h⟩ := hu <;> (subst h; rfl)
/-- Pairs in a row of the call's own, read. -/
theorem own_prs {w : World} {base : Nat} {v : Value} {L : List (Int × Int)} {e : TypeId} (h : w.ownsRow base e 2 v L.length (cP L)) : ∃ a c, v = .slice a L.length c ∧ L.length ≤ c ∧ Prs w a L := by
  have h0 := h
  rcases h.2 with ⟨rfl, h2⟩ | ⟨g, cap, cur, rfl, hg, hh, hcap, r⟩
  · exact ⟨none, 0, by rw [h2], by omega, .inl h2⟩
  · refine ⟨some ⟨g, 0, none⟩, cap, rfl, hcap, .inr ⟨g, 0, rfl, fun i hi => ?_⟩⟩
    obtain ⟨c1, c2⟩ := cP_at L i hi
    rw [Nat.zero_add, h0.cellAt _ (by omega), h0.cellAt _ (by omega)]
    exact ⟨c1, c2⟩
end
section
open Go Go.RowKit

/-- The order of lines, as a value. -/
abbrev cmpV : Value := .func (.func 16) #[] #[]
theorem swap_world {w : World} {base g n cap j : Nat} {M : List (Int × Int)} (hown : w.ownsRow base 29 2 (.slice (some ⟨g, 0, none⟩) n cap) n (cP M)) (hl : M.length = n) (hj : j < n) (h0 : 0 < j) (hb : base ≤ g) {w0 : World} (hB : Below base w0 w) :
    (((((w.setCell ⟨g, j * 2, none⟩ (.int .i64 (pth M (j - 1)).1)).setCell ⟨g, j * 2 + 1, none⟩ (.int .i64 (pth M (j - 1)).2)).setCell ⟨g, (j - 1) * 2, none⟩ (.int .i64 (pth M j).1)).setCell ⟨g, (j - 1) * 2 + 1, none⟩ (.int .i64 (pth M j).2)).drew).ownsRow base 29 2 (.slice (some ⟨g, 0, none⟩) n cap) n (cP (swapL M j)) ∧
    Below base w0 (((((w.setCell ⟨g, j * 2, none⟩ (.int .i64 (pth M (j - 1)).1)).setCell ⟨g, j * 2 + 1, none⟩ (.int .i64 (pth M (j - 1)).2)).setCell ⟨g, (j - 1) * 2, none⟩ (.int .i64 (pth M j).1)).setCell ⟨g, (j - 1) * 2 + 1, none⟩ (.int .i64 (pth M j).2)).drew) := by
  have s1 := (hown.stored (j * 2) (.int .i64 (pth M (j - 1)).1)).1
  have s2 := (s1.stored (j * 2 + 1) (.int .i64 (pth M (j - 1)).2)).1
  have s3 := (s2.stored ((j - 1) * 2) (.int .i64 (pth M j).1)).1
  have s4 := (s3.stored ((j - 1) * 2 + 1) (.int .i64 (pth M j).2)).1
  rw [cP_set M j _ (by omega), cP_set _ (j - 1) _ (by simp; omega)] at s4
  exact ⟨own_drew s4, ((((hB.setCell (p := ⟨g, _, none⟩) hb _).setCell (p := ⟨g, _, none⟩) hb _).setCell (p := ⟨g, _, none⟩) hb _).setCell (p := ⟨g, _, none⟩) hb _).drew⟩
set_option maxRecDepth 100000 in
set_option maxHeartbeats 4000000 in
theorem insertion_any (base g n cap : Nat) (L : List (Int × Int)) (w : World) (hl : L.length = n) (h60 : n ≤ 1000) (hb : base ≤ g)
    (hown : w.ownsRow base 29 2 (.slice (some ⟨g, 0, none⟩) n cap) n (cP L)) :
    Calls Try.prog 47 #[.slice (some ⟨g, 0, none⟩) n cap, .int .i64 0, .int .i64 n, cmpV] w fun e w' => e = .returned (.tuple #[]) ∧
      ∃ M, M.Perm L ∧ SortedP M ∧ w'.ownsRow base 29 2 (.slice (some ⟨g, 0, none⟩) n cap) n (cP M) ∧ Below base w w' := by
  have hl' := Lib.hid hl
  clear hl
  go_enter Try.func47, Try.ntmps47
  go_wp2
  go_loopw [8] (fun i wr => ∃ k : Nat, ∃ M : List (Int × Int), 1 ≤ k ∧ k ≤ n + 1 ∧ i = .int .i64 k ∧ M.Perm L ∧ (∀ x y, x < y → y < k → y < n → LeP (pth M x) (pth M y)) ∧ wr.ownsRow base 29 2 (.slice (some ⟨g, 0, none⟩) n cap) n (cP M) ∧ Below base w wr) (fun i _ => n + 1 - (intOf i).toNat)
  case atStart => exact ⟨1, L, by omega, by omega, rfl, List.Perm.refl _, fun x y h1 h2 => by omega, hown, Below.refl _ _⟩
  case round =>
    clear hown
    obtain ⟨k, M, hk1, hk, rfl, hp, hso, hown, B0⟩ := hrel
    replace hp := Lib.hid hp
    replace hso := Lib.hid hso
    by_cases hlt : k < n
    · go_wp2
      go_loopw [9] (fun i wr => ∃ j : Nat, ∃ M : List (Int × Int), j ≤ k ∧ i = .int .i64 j ∧ M.Perm L ∧ Almost M k j ∧ wr.ownsRow base 29 2 (.slice (some ⟨g, 0, none⟩) n cap) n (cP M) ∧ Below base w wr) (fun i _ => (intOf i).toNat)
      case atStart => exact ⟨k, M, by omega, rfl, hp.out, almost_start (fun x y h1 h2 => hso.out x y h1 h2 (by omega)), hown, B0⟩
      case round =>
        clear hown B0 hp hso
        obtain ⟨j, M, hj, rfl, hp, hal, hown, B0⟩ := hrel
        have hMl := Lib.hid (show M.length = n from by rw [hp.length_eq]; exact hl'.out)
        replace hp := Lib.hid hp
        replace hal := Lib.hid hal
        by_cases h0 : 0 < j
        · have q0 := hown.cellAt (j * 2) (by omega)
          have q1 := hown.cellAt (j * 2 + 1) (by omega)
          have q2 := hown.cellAt ((j - 1) * 2) (by omega)
          have q3 := hown.cellAt ((j - 1) * 2 + 1) (by omega)
          rw [(cP_at M j (by rw [hMl.out]; omega)).1] at q0
          rw [(cP_at M j (by rw [hMl.out]; omega)).2] at q1
          rw [(cP_at M (j - 1) (by rw [hMl.out]; omega)).1] at q2
          rw [(cP_at M (j - 1) (by rw [hMl.out]; omega)).2] at q3
          have x0 := cellX q0
          have x1 := cellX q1
          have x2 := cellX q2
          have x3 := cellX q3
          clear q0 q1 q2 q3
          have i1 : (0 : Int) ≤ (j : Int) - 1 := by omega
          have i2 : ((j : Int) - 1).toNat = j - 1 := by omega
          have i3 : (0 : Int) < (j : Int) := by omega
          have i4 : (j : Int) < (n : Int) := by omega
          have i5 : (1 : Int) ≤ (j : Int) := by omega
          have i6 : (j : Int) - 1 < (n : Int) := by omega
          have hneg := Lib.hid (cmpL_neg (p := pth M j) (q := pth M (j - 1)))
          change Hid (cmpL ((pth M j).1, (pth M j).2) ((pth M (j - 1)).1, (pth M (j - 1)).2) < 0 ↔ _) at hneg
          have D := fun W => compare_any (pth M j).1 (pth M j).2 (pth M (j - 1)).1 (pth M (j - 1)).2 W
          generalize cmpL ((pth M j).1, (pth M j).2) ((pth M (j - 1)).1, (pth M (j - 1)).2) = cv at *
          go_wp2
          refine wp_region_ext (by kernel_rfl) (by kernel_rfl) ?_
          repeat (go_big_quiet_step ((exact callE (D _))))
          refine wpQuiet_nil ?_
          rintro ⟨w1, hw1⟩
          dsimp only
          replace B0 := B0.trans (hw1.mono (by have := B0.size; have := (hown.lt g rfl).2; omega))
          replace hown := owns_next hown hw1
          clear x0 x1 x2 x3 D hw1
          by_cases hcv : cv < 0
          · have hlx := Lib.hid (hneg.out.1 hcv)
            have q0 := hown.cellAt (j * 2) (by omega)
            have q1 := hown.cellAt (j * 2 + 1) (by omega)
            have q2 := hown.cellAt ((j - 1) * 2) (by omega)
            have q3 := hown.cellAt ((j - 1) * 2 + 1) (by omega)
            rw [(cP_at M j (by rw [hMl.out]; omega)).1] at q0
            rw [(cP_at M j (by rw [hMl.out]; omega)).2] at q1
            rw [(cP_at M (j - 1) (by rw [hMl.out]; omega)).1] at q2
            rw [(cP_at M (j - 1) (by rw [hMl.out]; omega)).2] at q3
            have f0 := hown.frozenAt (j * 2)
            have f1 := hown.frozenAt (j * 2 + 1)
            have f2 := hown.frozenAt ((j - 1) * 2)
            have f3 := hown.frozenAt ((j - 1) * 2 + 1)
            have n1 : ¬ (j - 1) * 2 = j * 2 := by omega
            have n2 : ¬ (j - 1) * 2 = j * 2 + 1 := by omega
            have n3 : ¬ j * 2 = (j - 1) * 2 := by omega
            have n4 : ¬ j * 2 = (j - 1) * 2 + 1 := by omega
            have n5 : ¬ (j - 1) * 2 + 1 = j * 2 := by omega
            have n6 : ¬ j * 2 + 1 = (j - 1) * 2 := by omega
            go_wp2
            go_region
            all_goals
              obtain ⟨hown4, B4⟩ := swap_world hown hMl.out (by omega) h0 hb B0
              clear q0 q1 q2 q3 f0 f1 f2 f3 n1 n2 n3 n4 n5 n6 hown
              generalize (((((w1.setCell ⟨g, j * 2, none⟩ (.int .i64 (pth M (j - 1)).1)).setCell ⟨g, j * 2 + 1, none⟩ (.int .i64 (pth M (j - 1)).2)).setCell ⟨g, (j - 1) * 2, none⟩ (.int .i64 (pth M j).1)).setCell ⟨g, (j - 1) * 2 + 1, none⟩ (.int .i64 (pth M j).2)).drew) = w4 at *
              go_wp2
              go_roundw
              case rel => exact ⟨j - 1, swapL M j, by omega, by simp only [Value.int.injEq, true_and]; omega, (swapL_perm (by rw [hMl.out]; omega)).trans hp.out, almost_swap hal.out (by rw [hMl.out]; omega) hj h0 hlx.out, hown4, B4⟩
              case measure => simp [intOf]; omega
          · have hnl := Lib.hid (fun h => hcv (hneg.out.2 h))
            go_wp2
            go_roundw
            case rel => exact ⟨k + 1, M, by omega, by omega, by go_num, hp.out, fun x y h1 h2 _ => almost_done hal.out (.inr hnl.out) x y h1 (by omega), hown, B0⟩
            case measure => simp [intOf]; omega
        · have i3 : (j : Int) ≤ 0 := by omega
          go_wp2
          refine wp_region_ext (by kernel_rfl) (by kernel_rfl) ?_
          repeat (go_big_quiet_step (fail))
          refine wpQuiet_nil ?_
          rintro ⟨w1, hw1⟩
          dsimp only
          replace B0 := B0.trans (hw1.mono (by have := B0.size; have := (hown.lt g rfl).2; omega))
          replace hown := owns_next hown hw1
          clear hw1
          go_wp2
          go_roundw
          case rel => exact ⟨k + 1, M, by omega, by omega, by go_num, hp.out, fun x y h1 h2 _ => almost_done hal.out (.inl (by omega)) x y h1 (by omega), hown, B0⟩
          case measure => simp [intOf]; omega
    · go_wp2
      go_end0
      exact ⟨rfl, M, hp.out, fun x y h1 h2 => hso.out x y h1 (by have := hp.out.length_eq; rw [hl'.out] at this; omega) (by have := hp.out.length_eq; rw [hl'.out] at this; omega), hown, B0⟩
end
end Go.Proofs.Ytkbdclladfjmcaa
