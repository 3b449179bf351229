/- Layer 2: choices, by the specification. Layer 2: Choices, by both sides. Layer 2: slices.Insert, by the library's contract. Layer 2: slices.Insert of one number into a row of the call's own. -/
import Derived.Test.YtkbdclladfjmcaaMc
import Derived.Deep.RegionWith
import Derived.Shelf.Spec.SlicesInsertGrow
namespace Go.Proofs.Ytkbdclladfjmcaa
section
open Go Go.RowKit

theorem and_pw (u i : Nat) : u &&& pw i = 0 ↔ u.testBit i = false := by
  unfold pw
  constructor
  · intro h
    have : (u &&& 2 ^ i).testBit i = false := by rw [h]; exact Nat.zero_testBit i
    rw [Nat.testBit_and, Nat.testBit_two_pow] at this
    simpa using this
  · intro h
    refine Nat.eq_of_testBit_eq fun j => ?_
    rw [Nat.testBit_and, Nat.testBit_two_pow, Nat.zero_testBit]
    by_cases hj : i = j
    · subst hj; simp [h]
    · simp [hj]
theorem bit_free (u i : Nat) : (((u / 2 ^ i : Nat) : Int) % 2 == 0) = decide (u &&& pw i = 0) := by
  have ht : u.testBit i = decide (u / 2 ^ i % 2 = 1) := Nat.testBit_eq_decide_div_mod_eq
  have ha := and_pw u i
  rw [ht] at ha
  rcases Nat.mod_two_eq_zero_or_one (u / 2 ^ i) with h | h
  · have e : ((u / 2 ^ i : Nat) : Int) % 2 = 0 := by omega
    rw [e, decide_eq_true (ha.2 (by rw [h]; rfl))]; rfl
  · have e : ((u / 2 ^ i : Nat) : Int) % 2 = 1 := by omega
    rw [e, decide_eq_false (fun hh => by have := ha.1 hh; rw [h] at this; cases this)]; rfl
theorem shr_tmod (u i : Nat) : ((u : Int) / 2 ^ i).tmod 2 = ((u / 2 ^ i : Nat) : Int) % 2 := by
  have : (u : Int) / 2 ^ i = ((u / 2 ^ i : Nat) : Int) := by rw [Int.natCast_ediv, Int.natCast_pow]; rfl
  rw [this, Int.tmod_eq_emod_of_nonneg (Int.natCast_nonneg _)]
theorem shr_one {u i : Nat} (h : (((u / 2 ^ i : Nat) : Int) % 2 == 0) = false) : ((u : Int) / 2 ^ i).tmod 2 = 1 := by
  rw [beq_eq_false_iff_ne] at h
  rw [shr_tmod]
  omega
theorem shr_zero {u i : Nat} (h : (((u / 2 ^ i : Nat) : Int) % 2 == 0) = true) : ((u : Int) / 2 ^ i).tmod 2 = 0 := by
  rw [beq_iff_eq] at h
  rw [shr_tmod, h]
/-- The corners from one on, around, until before another one. -/
def Way (n : Nat) : Nat → List Nat → Nat → Prop
  | a, [], to => a = to
  | a, c :: cs, to => c = a ∧ a ≠ to ∧ Way n ((a + 1) % n) cs to
theorem way_cons {n a c to : Nat} {cs : List Nat} : Way n a (c :: cs) to ↔ c = a ∧ a ≠ to ∧ Way n ((a + 1) % n) cs to := Iff.rfl
theorem run_shr (u i : Nat) (_hu : u < 1099511627776) (h : i < 40) (w : World) : (binOp .shr 3 (.int .i64 (u : Int)) (.int .i64 (i : Int))).run Try.prog w = .ok (.int .i64 ((u / 2 ^ i : Nat) : Int)) w := by
  go_simp
end
section
open Go Go.RowKit

theorem pth_of {L : List (Int × Int)} {q : Int × Int} (h : q ∈ L) : ∃ i, i < L.length ∧ pth L i = q := by
  obtain ⟨i, hi, rfl⟩ := List.mem_iff_getElem.1 h
  exact ⟨i, hi, by simp [pth, hi]⟩
/-- What IsBrand asks, said of the lines as a set. -/
theorem BrandP.full {n : Int} {L : List (Int × Int)} (h : BrandP n L) : Full n L ∧ SortedP L := by
  obtain ⟨h3, h12, hl, hall⟩ := h
  have hlex : ∀ i j, i < j → j < L.length → LexP (pth L i) (pth L j) := fun i j hij hj => ((hall j hj).2 i hij).1
  refine ⟨⟨⟨fun q hq => ?_, fun p hp q hq hc => ?_, ?_⟩, h3, hl⟩, fun i j hij hj => (hlex i j hij hj).le⟩
  · obtain ⟨i, hi, rfl⟩ := pth_of hq
    exact (hall i hi).1
  · obtain ⟨i, hi, rfl⟩ := pth_of hp
    obtain ⟨j, hj, rfl⟩ := pth_of hq
    rcases Nat.lt_trichotomy i j with h | h | h
    · exact ((hall j hj).2 i h).2 hc
    · subst h; unfold CutP at hc; omega
    · have := hlex j i h hi
      unfold LexP at this; unfold CutP at hc; omega
  · rw [List.nodup_iff_pairwise_ne, List.pairwise_iff_getElem]
    intro i j hi hj hij e
    have := hlex i j hij hj
    rw [pth_get hi, pth_get hj, e] at this
    unfold LexP at this
    omega
theorem full_brand {n : Int} {L : List (Int × Int)} (h : Full n L) (hs : SortedP L) (h12 : n ≤ 12) : BrandP n L := by
  obtain ⟨⟨h1, h2, h3⟩, hn, hl⟩ := h
  refine ⟨hn, h12, hl, fun i hi => ⟨h1 _ (by rw [pth_get hi]; exact List.getElem_mem hi), fun k hk => ⟨?_, ?_⟩⟩⟩
  · have hle := hs k i hk hi
    have hne : pth L k ≠ pth L i := fun e => by
      rw [pth_get hi, pth_get (show k < L.length by omega)] at e
      exact absurd ((List.getElem_inj h3).1 e) (by omega)
    unfold LeP at hle
    unfold LexP at *
    have : (pth L k).1 ≠ (pth L i).1 ∨ (pth L k).2 ≠ (pth L i).2 := by
      refine Classical.byContradiction fun hh => hne (Prod.ext ?_ ?_) <;> omega
    omega
  · exact h2 _ (by rw [pth_get (show k < L.length by omega)]; exact List.getElem_mem _) _ (by rw [pth_get hi]; exact List.getElem_mem hi)
theorem BrandP.tris {n : Nat} {L : List (Int × Int)} (h : BrandP n L) : (tris n L).length + 2 = n := by
  obtain ⟨m, rfl⟩ : ∃ m, n = m + 3 := ⟨n - 3, by have := h.1; omega⟩
  rw [tris_length m h.full.1]
theorem way_btwT {n i k : Nat} (d : Nat) (hne : ∀ t, t < d → cor n i t ≠ k) (hd : cor n i d = k) : ∀ (l s : Nat), s + l = d → Way n (cor n i s) ((List.range' s l).map (cor n i)) k := by
  intro l
  induction l with
  | zero => intro s hs; simp only [List.range'_zero, List.map_nil, Way]; rw [← hd, ← hs]; rfl
  | succ l ih =>
    intro s hs
    rw [List.range'_succ, List.map_cons, way_cons]
    refine ⟨rfl, hne s (by omega), ?_⟩
    have := ih (s + 1) (by omega)
    have e : (cor n i s + 1) % n = cor n i (s + 1) := by unfold cor; rw [Nat.mod_add_mod, show i + 1 + s + 1 = i + 1 + (s + 1) by omega]
    rw [e]
    exact this
theorem way_btw {n i k : Nat} (hi : i < n) (hk : k < n) (hik : i ≠ k) : Way n ((i + 1) % n) (btw n i k) k ∧ (btw n i k).length ≤ n := by
  have h := fun t (ht : t ≤ (k + n - i - 1) % n) => cor_at hi hk hik ht
  have h0 := (h _ (Nat.le_refl _))
  refine ⟨?_, by rw [btw, btwT_length]; omega⟩
  have := way_btwT (n := n) (i := i) (k := k) ((k + n - i - 1) % n) (fun t ht e => by have := (h t (by omega)).1.1 e; omega) (h0.1.2 rfl) ((k + n - i - 1) % n) 0 (by omega)
  rw [btw, btwT, List.range_eq_range']
  exact this
def ChoP (n : Int) (L : List (Int × Int)) (i k : Int) : Prop := BrandP n L ∧ 0 ≤ i ∧ i < n ∧ 0 ≤ k ∧ k < n ∧ i ≠ k
instance (n L i k) : Decidable (ChoP n L i k) := by unfold ChoP; infer_instance
set_option maxRecDepth 100000 in
set_option maxHeartbeats 4000000 in
theorem Choices_no (n i k : Int) (a : Option Addr) (m c : Nat) (L : List (Int × Int)) (w : World) (h : Prs w a L) (hl : L.length = m) (hcap : m ≤ c) (hm : m ≤ 4611686018427387904) (hB : ¬ ChoP n L i k) :
    Calls Try.prog 11 #[.int .i64 n, .slice a m c, .int .i64 i, .int .i64 k] w (Ret (.tuple #[.int .i64 0, .int .i64 2]) w) := by
  have C1 := Lib.hid (fun W => isCorner_any n i W)
  have C2 := Lib.hid (fun W => isCorner_any n k W)
  by_cases hb : BrandP n L
  · have K := Lib.hid (brandOf_yes n a m c L w h hl hcap hb)
    have hcase : ¬ CornP n i ∨ (CornP n i ∧ ¬ CornP n k) ∨ (CornP n i ∧ CornP n k ∧ i = k) := by
      unfold ChoP at hB
      unfold CornP
      refine Classical.byContradiction fun hh => hB ⟨hb, ?_⟩
      omega
    clear hB hb hl h
    rcases hcase with h1 | ⟨h1, h2⟩ | ⟨h1, h2, rfl⟩
    · rw [decide_eq_false h1] at C1
      clear h1 C2
      go_enter Try.func11, Try.ntmps11
      go_wp2_with (first
        | (go_at_call 13; refine K.out.mono ?_; rintro e w1 ⟨rfl, hb1⟩)
        | (go_at_call 20; (with_reducible refine (C1.out _).mono ?_); rintro e w1 ⟨rfl, rfl⟩))
      go_ret2
      exact Ret.mk rfl (nextB hb1 (b1 _ _))
    · rw [decide_eq_true h1] at C1
      rw [decide_eq_false h2] at C2
      clear h1 h2
      go_enter Try.func11, Try.ntmps11
      go_wp2_with (first
        | (go_at_call 13; refine K.out.mono ?_; rintro e w1 ⟨rfl, hb1⟩)
        | (go_at_call 20; (with_reducible refine (C1.out _).mono ?_); rintro e w1 ⟨rfl, rfl⟩)
        | (go_at_call 20; (with_reducible refine (C2.out _).mono ?_); rintro e w1 ⟨rfl, rfl⟩))
      go_ret2
      exact Ret.mk rfl (nextB hb1 (b1 _ _))
    · rw [decide_eq_true h1] at C1
      clear h1 h2 C2
      go_enter Try.func11, Try.ntmps11
      go_wp2_with (first
        | (go_at_call 13; refine K.out.mono ?_; rintro e w1 ⟨rfl, hb1⟩)
        | (go_at_call 20; (with_reducible refine (C1.out _).mono ?_); rintro e w1 ⟨rfl, rfl⟩))
      go_ret2
      exact Ret.mk rfl (nextB hb1 (b1 _ _))
  · have K := Lib.hid (brandOf_not n a m c L w h hl hcap hm hb)
    clear hB hb hl h C1 C2
    go_enter Try.func11, Try.ntmps11
    go_wp2_with (go_at_call 13; refine K.out.mono ?_; rintro e w1 ⟨rfl, hb1⟩)
    go_ret2
    exact Ret.mk rfl (nextB hb1 (b1 _ _))
end
section
open Go Go.RowKit Go.Shelf
end
section
open Go Go.RowKit

/-- x laid in at i. -/
def insV {α : Type} (X : List α) (i : Nat) (x : α) : List α := X.take i ++ x :: X.drop i
theorem insV_length {α : Type} (X : List α) (i : Nat) (x : α) (hi : i ≤ X.length) : (insV X i x).length = X.length + 1 := by simp [insV]; omega
theorem insV_get {α : Type} (X : List α) (i : Nat) (x : α) (hi : i ≤ X.length) (t : Nat) : (insV X i x)[t]? = if t < i then X[t]? else if t = i then some x else X[t - 1]? := by
  unfold insV
  rw [List.getElem?_append, List.length_take, Nat.min_eq_left hi]
  by_cases h1 : t < i
  · rw [if_pos h1, if_pos h1, List.getElem?_take, if_pos h1]
  · rw [if_neg h1, if_neg h1]
    by_cases h2 : t = i
    · subst h2; simp
    · rw [if_neg h2]
      obtain ⟨s, hs⟩ : ∃ s, t - i = s + 1 := ⟨t - i - 1, by omega⟩
      rw [hs, List.getElem?_cons_succ, List.getElem?_drop]
      congr 1
      omega
theorem lI_ins (xs : List Int) (i : Nat) (x : Int) : insV (lI xs) i (.int .i64 x) = lI (insV xs i x) := by simp [insV, lI]
theorem layL_length : ∀ (vs X : List Value) (o : Nat), (layL X o vs).length = X.length := by
  intro vs
  induction vs with
  | nil => intros; rfl
  | cons v vs ih => intro X o; rw [layL, ih]; simp
theorem ins_shift {X cs : List Value} {n i : Nat} {x : Value} (hX : n + 1 ≤ X.length) (hc : X.take n = cs) (hi : i ≤ n) : (layL (layL X (i + 1) (cs.drop i)) i [x]).take (n + 1) = insV cs i x := by
  have hcl : cs.length = n := by rw [← hc]; simp; omega
  have hg : ∀ t, t < n → X[t]? = cs[t]? := fun t ht => by rw [← hc, List.getElem?_take, if_pos ht]
  apply List.ext_getElem?
  intro t
  rw [insV_get _ _ _ (by omega), List.getElem?_take]
  by_cases ht : t < n + 1
  · rw [if_pos ht, layL_get _ _ _ _ (by rw [layL_length]; simp; omega)]
    by_cases h1 : t < i
    · rw [if_neg (by omega), if_pos h1, layL_get _ _ _ _ (by simp; omega), if_neg (by omega), hg t (by omega)]
    · rw [if_neg h1]
      by_cases h2 : t = i
      · subst h2; rw [if_pos (by simp), if_pos rfl]; simp
      · rw [if_neg (by simp; omega), if_neg h2, layL_get _ _ _ _ (by simp; omega), if_pos (by simp; omega), List.getElem?_drop]
        congr 1
        omega
  · rw [if_neg ht, if_neg (by omega), if_neg (by omega), List.getElem?_eq_none (by omega)]
theorem ins_fresh {R cs : List Value} {n i : Nat} {x : Value} (hR : n + 1 ≤ R.length) (hcl : cs.length = n) (hi : i < n) (hr : ∀ t, t < i → R[t]? = cs[t]?) : (layL (layL R i [x]) (i + 1) (cs.drop i)).take (n + 1) = insV cs i x := by
  apply List.ext_getElem?
  intro t
  rw [insV_get _ _ _ (by omega), List.getElem?_take]
  by_cases ht : t < n + 1
  · rw [if_pos ht, layL_get _ _ _ _ (by rw [layL_length]; simp; omega)]
    by_cases h1 : t < i
    · rw [if_neg (by omega), if_pos h1, layL_get _ _ _ _ (by simp; omega), if_neg (by omega), hr t h1]
    · rw [if_neg h1]
      by_cases h2 : t = i
      · subst h2; rw [if_neg (by omega), layL_get _ _ _ _ (by simp; omega), if_pos (by simp), if_pos rfl]; simp
      · rw [if_pos (by simp; omega), if_neg h2, List.getElem?_drop]
        congr 1
        omega
  · rw [if_neg ht, if_neg (by omega), if_neg (by omega), List.getElem?_eq_none (by omega)]
theorem ins_end {X cs : List Value} {n : Nat} {x : Value} (hX : n + 1 ≤ X.length) (hc : X.take n = cs) : (layL X n [x]).take (n + 1) = insV cs n x := by
  have hcl : cs.length = n := by rw [← hc]; simp; omega
  apply List.ext_getElem?
  intro t
  rw [insV_get _ _ _ (by omega), List.getElem?_take]
  by_cases ht : t < n + 1
  · rw [if_pos ht, layL_get _ _ _ _ (by simp; omega)]
    by_cases h1 : t < n
    · rw [if_neg (by omega), if_pos h1, ← hc, List.getElem?_take, if_pos h1]
    · have : t = n := by omega
      subst this
      rw [if_pos (by simp), if_neg h1, if_pos rfl]; simp
  · rw [if_neg ht, if_neg (by omega), if_neg (by omega), List.getElem?_eq_none (by omega)]
section
variable {w : World} {base : Nat} {e : TypeId} {g n cap : Nat} {xs : List Value}
/-- All of the row, up to its capacity. -/
theorem own_full (h : w.ownsRow base e 1 (.slice (some ⟨g, 0, none⟩) n cap) n xs) : ∃ X, X.length = cap ∧ X.take n = xs ∧ w.ownsRow base e 1 (.slice (some ⟨g, 0, none⟩) cap cap) cap X := by
  rcases h.2 with ⟨h', _⟩ | ⟨g', cap', cur, h', hb, hg, hnc, hcm, hcs, htake⟩
  · simp at h'
  · simp only [Value.slice.injEq, Option.some.injEq, Addr.mk.injEq, and_true, true_and] at h'
    obtain ⟨rfl, rfl⟩ := h'
    exact ⟨cur.toList, by simp [hcs], by rw [← htake, Nat.mul_one], ⟨by simp [hcs], .inr ⟨g, cap, cur, rfl, hb, hg, Nat.le_refl _, hcm, hcs, List.take_of_length_le (by simp [hcs])⟩⟩⟩
theorem own_shape (h : w.ownsRow base e 1 (.slice (some ⟨g, 0, none⟩) n cap) n xs) : w.shape? g = some (e, cap) := by
  rcases h.2 with ⟨h', _⟩ | ⟨g', cap', cur, h', hb, hg, hnc, hcm, hcs, htake⟩
  · simp at h'
  · simp only [Value.slice.injEq, Option.some.injEq, Addr.mk.injEq, and_true, true_and] at h'
    obtain ⟨rfl, rfl⟩ := h'
    unfold World.shape?
    rw [hg]
    simp [hcs]
theorem own_fresh (w : World) (R : Array Value) (hb : base ≤ w.heap.size) (hm : R.size ≤ maxLen) : (w.alloc (.cells R e)).ownsRow base e 1 (.slice (some ⟨w.heap.size, 0, none⟩) R.size R.size) R.size R.toList :=
  ⟨by simp, .inr ⟨w.heap.size, R.size, R, rfl, hb, heap_alloc_new w _, Nat.le_refl _, hm, by simp, List.take_of_length_le (by simp)⟩⟩
end
theorem grown_trans {a b c : World} {g : Nat} (h : a.grownBy b (some g)) (k : b.grownBy c (some g)) : a.grownBy c (some g) :=
  ⟨k.os.trans h.os, k.tape.trans h.tape, k.output.trans h.output, Nat.le_trans h.size k.size, fun q hq hne => (k.block q (Nat.lt_of_lt_of_le hq h.size) hne).trans (h.block q hq hne)⟩
end
end Go.Proofs.Ytkbdclladfjmcaa
