/- Layer 2: slices.Insert of one number into a row of the call's own. -/
import Derived.Test.YtflbaadfbjpakaaDc
namespace Go.Proofs.Ytflbaadfbjpakaa
open Go Go.RowKit

/-- x laid in at i. -/
def insV {α : Type} (X : List α) (i : Nat) (x : α) : List α := X.take i ++ x :: X.drop i
theorem insV_length {α : Type} (X : List α) (i : Nat) (x : α) (hi : i ≤ X.length) : (insV X i x).length = X.length + 1 := by simp [insV]; omega
theorem insV_get {α : Type} (X : List α) (i : Nat) (x : α) (hi : i ≤ X.length) (t : Nat) : (insV X i x)[t]? = if t < i then X[t]? else if t = i then some x else X[t - 1]? := by
  unfold insV
  rw [List.getElem?_append, List.length_take, Nat.min_eq_left hi]
  by_cases h1 : t < i
  · rw [if_pos h1, if_pos h1, List.getElem?_take, if_pos h1]
  · rw [if_neg h1, if_neg h1]
    by_cases h2 : t = i
    · subst h2; simp
    · rw [if_neg h2]
      obtain ⟨s, hs⟩ : ∃ s, t - i = s + 1 := ⟨t - i - 1, by omega⟩
      rw [hs, List.getElem?_cons_succ, List.getElem?_drop]
      congr 1
      omega
theorem lI_ins (xs : List Int) (i : Nat) (x : Int) : insV (lI xs) i (.int .i64 x) = lI (insV xs i x) := by simp [insV, lI]
theorem layL_length : ∀ (vs X : List Value) (o : Nat), (layL X o vs).length = X.length := by
  intro vs
  induction vs with
  | nil => intros; rfl
  | cons v vs ih => intro X o; rw [layL, ih]; simp
theorem ins_shift {X cs : List Value} {n i : Nat} {x : Value} (hX : n + 1 ≤ X.length) (hc : X.take n = cs) (hi : i ≤ n) : (layL (layL X (i + 1) (cs.drop i)) i [x]).take (n + 1) = insV cs i x := by
  have hcl : cs.length = n := by rw [← hc]; simp; omega
  have hg : ∀ t, t < n → X[t]? = cs[t]? := fun t ht => by rw [← hc, List.getElem?_take, if_pos ht]
  apply List.ext_getElem?
  intro t
  rw [insV_get _ _ _ (by omega), List.getElem?_take]
  by_cases ht : t < n + 1
  · rw [if_pos ht, layL_get _ _ _ _ (by rw [layL_length]; simp; omega)]
    by_cases h1 : t < i
    · rw [if_neg (by omega), if_pos h1, layL_get _ _ _ _ (by simp; omega), if_neg (by omega), hg t (by omega)]
    · rw [if_neg h1]
      by_cases h2 : t = i
      · subst h2; rw [if_pos (by simp), if_pos rfl]; simp
      · rw [if_neg (by simp; omega), if_neg h2, layL_get _ _ _ _ (by simp; omega), if_pos (by simp; omega), List.getElem?_drop]
        congr 1
        omega
  · rw [if_neg ht, if_neg (by omega), if_neg (by omega), List.getElem?_eq_none (by omega)]
theorem ins_fresh {R cs : List Value} {n i : Nat} {x : Value} (hR : n + 1 ≤ R.length) (hcl : cs.length = n) (hi : i < n) (hr : ∀ t, t < i → R[t]? = cs[t]?) : (layL (layL R i [x]) (i + 1) (cs.drop i)).take (n + 1) = insV cs i x := by
  apply List.ext_getElem?
  intro t
  rw [insV_get _ _ _ (by omega), List.getElem?_take]
  by_cases ht : t < n + 1
  · rw [if_pos ht, layL_get _ _ _ _ (by rw [layL_length]; simp; omega)]
    by_cases h1 : t < i
    · rw [if_neg (by omega), if_pos h1, layL_get _ _ _ _ (by simp; omega), if_neg (by omega), hr t h1]
    · rw [if_neg h1]
      by_cases h2 : t = i
      · subst h2; rw [if_neg (by omega), layL_get _ _ _ _ (by simp; omega), if_pos (by simp), if_pos rfl]; simp
      · rw [if_pos (by simp; omega), if_neg h2, List.getElem?_drop]
        congr 1
        omega
  · rw [if_neg ht, if_neg (by omega), if_neg (by omega), List.getElem?_eq_none (by omega)]
theorem ins_end {X cs : List Value} {n : Nat} {x : Value} (hX : n + 1 ≤ X.length) (hc : X.take n = cs) : (layL X n [x]).take (n + 1) = insV cs n x := by
  have hcl : cs.length = n := by rw [← hc]; simp; omega
  apply List.ext_getElem?
  intro t
  rw [insV_get _ _ _ (by omega), List.getElem?_take]
  by_cases ht : t < n + 1
  · rw [if_pos ht, layL_get _ _ _ _ (by simp; omega)]
    by_cases h1 : t < n
    · rw [if_neg (by omega), if_pos h1, ← hc, List.getElem?_take, if_pos h1]
    · have : t = n := by omega
      subst this
      rw [if_pos (by simp), if_neg h1, if_pos rfl]; simp
  · rw [if_neg ht, if_neg (by omega), if_neg (by omega), List.getElem?_eq_none (by omega)]
section
variable {w : World} {base : Nat} {e : TypeId} {g n cap : Nat} {xs : List Value}
/-- All of the row, up to its capacity. -/
theorem own_full (h : w.ownsRow base e 1 (.slice (some ⟨g, 0, none⟩) n cap) n xs) : ∃ X, X.length = cap ∧ X.take n = xs ∧ w.ownsRow base e 1 (.slice (some ⟨g, 0, none⟩) cap cap) cap X := by
  rcases h.2 with ⟨h', _⟩ | ⟨g', cap', cur, h', hb, hg, hnc, hcm, hcs, htake⟩
  · simp at h'
  · simp only [Value.slice.injEq, Option.some.injEq, Addr.mk.injEq, and_true, true_and] at h'
    obtain ⟨rfl, rfl⟩ := h'
    exact ⟨cur.toList, by simp [hcs], by rw [← htake, Nat.mul_one], ⟨by simp [hcs], .inr ⟨g, cap, cur, rfl, hb, hg, Nat.le_refl _, hcm, hcs, List.take_of_length_le (by simp [hcs])⟩⟩⟩
theorem own_shape (h : w.ownsRow base e 1 (.slice (some ⟨g, 0, none⟩) n cap) n xs) : w.shape? g = some (e, cap) := by
  rcases h.2 with ⟨h', _⟩ | ⟨g', cap', cur, h', hb, hg, hnc, hcm, hcs, htake⟩
  · simp at h'
  · simp only [Value.slice.injEq, Option.some.injEq, Addr.mk.injEq, and_true, true_and] at h'
    obtain ⟨rfl, rfl⟩ := h'
    unfold World.shape?
    rw [hg]
    simp [hcs]
theorem own_fresh (w : World) (R : Array Value) (hb : base ≤ w.heap.size) (hm : R.size ≤ maxLen) : (w.alloc (.cells R e)).ownsRow base e 1 (.slice (some ⟨w.heap.size, 0, none⟩) R.size R.size) R.size R.toList :=
  ⟨by simp, .inr ⟨w.heap.size, R.size, R, rfl, hb, heap_alloc_new w _, Nat.le_refl _, hm, by simp, List.take_of_length_le (by simp)⟩⟩
end
theorem grown_trans {a b c : World} {g : Nat} (h : a.grownBy b (some g)) (k : b.grownBy c (some g)) : a.grownBy c (some g) :=
  ⟨k.os.trans h.os, k.tape.trans h.tape, k.output.trans h.output, Nat.le_trans h.size k.size, fun q hq hne => (k.block q (Nat.lt_of_lt_of_le hq h.size) hne).trans (h.block q hq hne)⟩
theorem insert_any (base g n cap i vb : Nat) (xs : List Int) (x : Int) (w : World) (hown : w.ownsRow base 3 1 (.slice (some ⟨g, 0, none⟩) n cap) n (lI xs)) (hi : i ≤ n) (h1 : 1 ≤ n) (h60 : n ≤ 1000)
    (hv : Blk w vb 3 #[.int .i64 x]) (hne : vb ≠ g) (hb : base ≤ w.heap.size) :
    Calls Try.prog 67 #[.slice (some ⟨g, 0, none⟩) n cap, .int .i64 i, .slice (some ⟨vb, 0, none⟩) 1 1] w fun e w' => ∃ g' cap', e = .returned (.slice (some ⟨g', 0, none⟩) (n + 1) cap') ∧
      w'.ownsRow base 3 1 (.slice (some ⟨g', 0, none⟩) (n + 1) cap') (n + 1) (lI (insV xs i x)) ∧ Below base w w' := by
  obtain ⟨hcap, hcm⟩ := own_cap hown
  have hcm' := hcm
  unfold maxLen at hcm'
  obtain ⟨X, hXl, hXt, hX⟩ := own_full hown
  have hgb := (hown.lt g rfl).1
  have hl : (lI xs).length = n := by have := hown.1; omega
  have hcs : ∀ j v, (lI xs)[j]? = some v → w.cell? ⟨g, 0 + j, none⟩ = some v := fun j v hj => by
    have : j < n := by have := (List.getElem?_eq_some_iff.1 hj).1; omega
    rw [Nat.zero_add, hown.cellAt j (by omega)]; exact hj
  have hvs : ∀ j v, [Value.int .i64 x][j]? = some v → w.cell? ⟨vb, 0 + j, none⟩ = some v := fun j v hj => by
    have : j < 1 := by have := (List.getElem?_eq_some_iff.1 hj).1; simpa using this
    obtain rfl : j = 0 := by omega
    simp at hj
    subst hj
    exact hv.c 0 rfl
  have h1v : ∀ v ∈ [Value.int .i64 x], v.oneCell' = true := by simp [Value.oneCell']
  by_cases hroom : n + 1 ≤ cap
  · by_cases hin : i < n
    · have K := Any2.slices_Insert_int_shift insLays g 0 n cap i vb 0 1 1 (lI xs) [.int .i64 x] w hin (by omega) hroom (by omega) hne hl rfl hcs
        (fun j hj => by rw [Nat.zero_add]; exact own_isSome hX j (by omega)) (fun j _ => by rw [Nat.zero_add]; exact hX.frozenAt _) hvs (lI_one xs) h1v 3 3 1 cap (by unfold World.shape?; unfold Blk at hv; rw [hv]; rfl) (own_shape hown) (by omega) (hv.fr 0) (hv.fr 1)
      refine K.mono ?_
      rintro e w' ⟨rfl, rfl⟩
      obtain ⟨o1, o2⟩ := own_setCells ((lI xs).drop i) (0 + (i + 1)) X w.drew (own_drew hX)
      obtain ⟨o3, o4⟩ := own_setCells [.int .i64 x] (0 + i) _ _ o1
      have o5 := own_take o3 (n + 1) (by omega)
      rw [Nat.mul_one, Nat.zero_add, Nat.zero_add, ins_shift (by omega) hXt hi, lI_ins] at o5
      exact ⟨g, cap, rfl, by rw [Nat.zero_add, Nat.zero_add]; exact o5, (Below.refl base w).drew.grown (grown_trans o2 o4) hb (fun k hk => by cases hk; exact hgb)⟩
    · obtain rfl : i = n := by omega
      have K := Any2.slices_Insert_int_end_room insLays g 0 i cap vb 0 1 1 [.int .i64 x] w (by omega) hroom (by omega) rfl
        (fun j hj => by rw [Nat.zero_add]; exact own_isSome hX _ (by omega)) (fun j _ => by rw [Nat.zero_add]; exact hX.frozenAt _) hvs h1v
      refine K.mono ?_
      rintro e w' ⟨rfl, rfl⟩
      obtain ⟨o3, o4⟩ := own_setCells [.int .i64 x] (0 + i) _ _ hX
      have o5 := own_take o3 (i + 1) (by omega)
      rw [Nat.mul_one, Nat.zero_add, ins_end (by omega) hXt, lI_ins] at o5
      exact ⟨g, cap, rfl, by rw [Nat.zero_add]; exact o5, (Below.refl base w).grown o4 hb (fun k hk => by cases hk; exact hgb)⟩
  · have hcn : cap < n + 1 := by omega
    have hG1 := grownCap_ge w (n + 1) cap 3
    have hG2 := grownCap_le_maxLen w (n + 1) cap 3 (by unfold maxLen; omega)
    by_cases hin : i < n
    · have K := Any2.slices_Insert_int_grow insLays g 0 n cap i vb 0 1 1 (lI xs) [.int .i64 x] w hin (by omega) hcap hcn (by omega) hl rfl hcs hvs (lI_one xs) h1v
      refine K.mono ?_
      rintro e w' ⟨rfl, rfl⟩
      show ∃ g' cap', Ending.returned (.slice (some ⟨w.heap.size, 0, none⟩) (n + 1) (grownCap w (n + 1) cap 3)) = _ ∧ _
      rw [show insRen.t 3 = 3 from rfl]
      generalize hR : (((lI xs).take i).toArray ++ Builtin.zeroCells (Value.int .i64 0).cells (n + 1 - i) ++ Builtin.zeroCells (Value.int .i64 0).cells (grownCap w (n + 1) cap 3 - (n + 1))) = R
      have hRs : R.size = grownCap w (n + 1) cap 3 := by
        rw [← hR]; simp [Builtin.zeroCells, Value.cells, hl]; omega
      have o0 := own_fresh (e := 3) w R hb (by omega)
      rw [hRs] at o0
      obtain ⟨o1, o2⟩ := own_setCells [.int .i64 x] i _ _ (own_drew o0)
      obtain ⟨o3, o4⟩ := own_setCells ((lI xs).drop i) (i + 1) _ _ (own_drew o1)
      have o5 := own_take o3 (n + 1) (by omega)
      have hRt : ∀ t, t < i → R.toList[t]? = (lI xs)[t]? := fun t ht => by
        rw [← hR]
        simp only [Array.toList_append, List.append_assoc]
        rw [List.getElem?_append_left (by simp [hl]; omega), List.getElem?_take, if_pos ht]
      rw [Nat.mul_one, ins_fresh (by simp [hRs]; omega) hl hin hRt, lI_ins] at o5
      refine ⟨_, _, rfl, o5, ?_⟩
      have B0 : Below base w (w.alloc (.cells R 3)).drew := ((Below.refl base w).alloc hb _).drew
      have B1 := B0.grown o2 (by simp; omega) (fun k hk => by cases hk; exact hb)
      have hs := B1.size
      exact B1.drew.grown o4 (by show base ≤ _; simpa using Nat.le_trans hb (by simpa using B1.size)) (fun k hk => by cases hk; exact hb)
    · obtain rfl : i = n := by omega
      have K := Any2.slices_Insert_int_end_grow insLays (some ⟨g, 0, none⟩) i cap vb 0 1 1 (lI xs) [.int .i64 x] w (by omega) hcap hcn (by omega) hl rfl (fun h => by cases h)
        (fun a ha j v hj => by cases ha; rw [Addr.add_lit]; exact hcs j v hj) hvs h1v
      refine K.mono ?_
      rintro e w' ⟨rfl, rfl⟩
      rw [show insRen.t 3 = 3 from rfl]
      generalize hR : ((lI xs ++ [Value.int .i64 x]).toArray ++ Builtin.zeroCells (Value.int .i64 0).cells (grownCap w (i + 1) cap 3 - (i + 1))) = R
      have hRs : R.size = grownCap w (i + 1) cap 3 := by
        rw [← hR]; simp [Builtin.zeroCells, Value.cells, hl]; omega
      have o0 := own_fresh (e := 3) w.drew R (by simpa using hb) (by omega)
      rw [hRs] at o0
      have o5 := own_take o0 (i + 1) (by omega)
      have hRt : R.toList.take ((i + 1) * 1) = insV (lI xs) i (.int .i64 x) := by
        rw [← hR]
        simp only [Array.toList_append]
        rw [List.take_append_of_le_length (by simp [hl]), List.take_of_length_le (by simp [hl])]
        unfold insV
        rw [List.take_of_length_le (by omega), List.drop_eq_nil_of_le (by omega)]
      rw [hRt, lI_ins] at o5
      exact ⟨_, _, rfl, o5, (Below.refl base w).drew.alloc (by simpa using hb) _⟩
end Go.Proofs.Ytflbaadfbjpakaa
