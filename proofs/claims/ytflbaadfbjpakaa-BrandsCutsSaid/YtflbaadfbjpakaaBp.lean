/- Layer 2: rows of the call's own: stores, cuts; slices.Clone and slices.Delete. -/
import Derived.Test.YtflbaadfbjpakaaBo
import Derived.Deep.RegionLaw
import Derived.Lib.SliceRun
import Derived.Lib.LazyBuf
namespace Go.Proofs.Ytflbaadfbjpakaa
open Go Go.RowKit

/-- xs, and from place o on the values vs. -/
def layL (xs : List Value) (o : Nat) : List Value → List Value
  | [] => xs
  | v :: vs => layL (xs.set o v) (o + 1) vs
theorem layL_get : ∀ (vs : List Value) (xs : List Value) (o t : Nat), o + vs.length ≤ xs.length → (layL xs o vs)[t]? = if o ≤ t ∧ t < o + vs.length then vs[t - o]? else xs[t]? := by
  intro vs
  induction vs with
  | nil => intro xs o t h; rw [layL, if_neg (by simp only [List.length_nil]; omega)]
  | cons v vs ih =>
    intro xs o t h
    simp only [List.length_cons] at h
    rw [layL, ih _ _ _ (by simp; omega), List.getElem?_set]
    simp only [List.length_cons]
    by_cases h1 : o = t
    · subst h1
      rw [if_neg (by omega), if_pos rfl, if_pos (by omega), if_pos (by omega), Nat.sub_self]
      rfl
    · by_cases h2 : o + 1 ≤ t ∧ t < o + 1 + vs.length
      · rw [if_pos h2, if_pos (by omega), show t - o = (t - (o + 1)) + 1 by omega]
        simp
      · rw [if_neg h2, if_neg h1, if_neg (by omega)]
section
variable {w : World} {base : Nat} {e : TypeId} {size : Nat} {g n cap : Nat} {xs : List Value}
theorem own_setCells : ∀ (vs : List Value) (o : Nat) (xs : List Value) (w : World), w.ownsRow base e size (.slice (some ⟨g, 0, none⟩) n cap) n xs →
    (w.setCells g o vs).ownsRow base e size (.slice (some ⟨g, 0, none⟩) n cap) n (layL xs o vs) ∧ w.grownBy (w.setCells g o vs) (some g) := by
  intro vs
  induction vs with
  | nil => intro o xs w h; exact ⟨h, rfl, rfl, rfl, Nat.le_refl _, fun _ _ _ => rfl⟩
  | cons v vs ih =>
    intro o xs w h
    obtain ⟨h1, h2⟩ := h.stored o v
    obtain ⟨h3, h4⟩ := ih (o + 1) _ _ h1
    exact ⟨h3, h4.os.trans h2.os, h4.tape.trans h2.tape, h4.output.trans h2.output, Nat.le_trans h2.size h4.size, fun k hk hne => (h4.block k (Nat.lt_of_lt_of_le hk h2.size) hne).trans (h2.block k hk hne)⟩
theorem own_take (h : w.ownsRow base e size (.slice (some ⟨g, 0, none⟩) n cap) n xs) (m : Nat) (hm : m ≤ n) : w.ownsRow base e size (.slice (some ⟨g, 0, none⟩) m cap) m (xs.take (m * size)) := by
  have hl := Nat.mul_le_mul_right size hm
  refine ⟨by rw [List.length_take, h.1]; omega, ?_⟩
  rcases h.2 with ⟨h', _⟩ | ⟨g', cap', cur, h', hb, hg, hnc, hcm, hcs, htake⟩
  · simp at h'
  · simp only [Value.slice.injEq, Option.some.injEq, Addr.mk.injEq, and_true, true_and] at h'
    obtain ⟨rfl, rfl⟩ := h'
    exact .inr ⟨g, cap, cur, rfl, hb, hg, by omega, hcm, hcs, by rw [← htake, List.take_take, Nat.min_eq_left hl]⟩
theorem own_isSome (h : w.ownsRow base e size (.slice (some ⟨g, 0, none⟩) n cap) n xs) (j : Nat) (hj : j < n * size) : (w.cell? ⟨g, j, none⟩).isSome = true := by
  rw [h.cellAt j hj, List.getElem?_eq_getElem (by rw [h.1]; exact hj)]; rfl
theorem own_cap (h : w.ownsRow base e size (.slice (some ⟨g, 0, none⟩) n cap) n xs) : n ≤ cap ∧ cap ≤ maxLen := by
  rcases h.2 with ⟨h', _⟩ | ⟨g', cap', cur, h', hb, hg, hnc, hcm, hcs, htake⟩
  · simp at h'
  · simp only [Value.slice.injEq, Option.some.injEq, Addr.mk.injEq, and_true, true_and] at h'
    obtain ⟨rfl, rfl⟩ := h'
    exact ⟨hnc, hcm⟩
theorem own_drew {v : Value} (h : w.ownsRow base e size v n xs) : w.drew.ownsRow base e size v n xs := h
end
/-- The list's cells, as a list. -/
def lI (xs : List Int) : List Value := xs.map (Value.int .i64)
theorem lI_length (xs : List Int) : (lI xs).length = xs.length := by simp [lI]
theorem lI_get {xs : List Int} {i : Nat} (h : i < xs.length) : (lI xs)[i]? = some (.int .i64 (nth xs i)) := by simp [lI, nth, h]
theorem own_ints {w : World} {base g n cap : Nat} {e : TypeId} {xs : List Int} (h : w.ownsRow base e 1 (.slice (some ⟨g, 0, none⟩) n cap) n (lI xs)) : xs.length = n ∧ ∀ i, i < n → w.cell? ⟨g, 0 + i, none⟩ = some (.int .i64 (nth xs i)) := by
  have hl : xs.length = n := by have := h.1; rw [lI_length] at this; omega
  exact ⟨hl, fun i hi => by rw [Nat.zero_add, h.cellAt i (by omega), lI_get (by omega)]⟩
theorem erase_take {X : List Value} {n i : Nat} {z : Value} (hl : X.length = n) (hi : i < n) : (layL (layL X i (X.drop (i + 1))) (n - 1) [z]).take (n - 1) = X.eraseIdx i := by
  have l1 : (layL X i (X.drop (i + 1))).length = n := by
    have : ∀ (vs xs : List Value) (o : Nat), (layL xs o vs).length = xs.length := by
      intro vs
      induction vs with
      | nil => intros; rfl
      | cons v vs ih => intro xs o; rw [layL, ih]; simp
    rw [this, hl]
  apply List.ext_getElem?
  intro t
  rw [List.getElem?_take, List.getElem?_eraseIdx]
  by_cases ht : t < n - 1
  · rw [if_pos (by omega), layL_get _ _ _ _ (by rw [l1]; simp; omega), if_neg (by omega), layL_get _ _ _ _ (by simp; omega)]
    by_cases h2 : t < i
    · rw [if_neg (by omega), if_pos h2]
    · rw [if_pos (by simp; omega), if_neg h2, List.getElem?_drop, show i + 1 + (t - i) = t + 1 by omega]
  · rw [if_neg (by omega)]
    split
    · rw [List.getElem?_eq_none (by omega)]
    · rw [List.getElem?_eq_none (by omega)]

set_option maxRecDepth 100000 in
set_option maxHeartbeats 1600000 in
theorem clone_any (b off n c : Nat) (xs : List Int) (w : World) (hl : xs.length = n) (h1 : 1 ≤ n) (h60 : n ≤ 1000)
    (hc : ∀ i, i < n → w.cell? ⟨b, off + i, none⟩ = some (.int .i64 (nth xs i))) :
    Calls Try.prog 66 #[.slice (some ⟨b, off, none⟩) n c] w fun e w' => ∃ g cap, e = .returned (.slice (some ⟨g, 0, none⟩) n cap) ∧
      w'.ownsRow w.heap.size 3 1 (.slice (some ⟨g, 0, none⟩) n cap) n (lI xs) ∧ Below w.heap.size w w' := by
  obtain ⟨i0, hi, hz0, hz1, hz2⟩ := info_parts infoInt
  have G0 := Lib.hid hi
  have G1 := Lib.hid hz0
  have G2 := Lib.hid hz1
  have G3 := Lib.hid hz2
  clear hi hz0 hz1 hz2
  have hcc : Hid (∀ j u, (lI xs)[j]? = some u → w.cell? (Addr.add ⟨b, off, none⟩ j) = some u) := Lib.hid (fun j u hj => by
    have hjl : j < xs.length := by have := (List.getElem?_eq_some_iff.1 hj).1; rwa [lI_length] at this
    rw [lI_get hjl] at hj
    rw [show Addr.add ⟨b, off, none⟩ j = ⟨b, off + j, none⟩ by simp [Addr.add], hc j (by omega)]
    exact hj)
  have hlen : Hid ((lI xs).length = n * 1) := Lib.hid (by rw [lI_length]; omega)
  have hone : Hid (∀ u ∈ lI xs, u.oneCell' = true) := Lib.hid (fun u hu => by
    obtain ⟨x, _, rfl⟩ := List.mem_map.1 hu
    rfl)
  clear hc hl
  have qT : ∀ (w : World) (a : Option Addr) (n c : Nat), (binOp .eql 30 (.slice a n c) (.slice none 0 0)).run Try.prog w = .ok (.bool a.isNone) w := fun w a n c => run_eql_slice_nil w _ 3 a n c Try.underlying30
  obtain ⟨m, rfl⟩ : ∃ m, n = m + 1 := ⟨n - 1, by omega⟩
  go_enter Try.func66, Try.ntmps66
  go_wp2_with (at_builtin; refine wpList_append_own _ rfl _ _ 30 rfl w.heap.size 3 i0 (.int .i64 0) 1 8 Try.underlying30 G0.out G1.out G2.out G3.out rfl (by decide) _ _ _ rfl (World.ownsRow_made w #[] 0 (Nat.le_refl _) (by decide) rfl) ⟨b, off, none⟩ (m + 1) c (lI xs) rfl hlen.out (fun j u hj => cellB (b1 _ _) (hcc.out j u hj)) hone.out (by unfold maxLen; omega) (by omega) (by simp) ?_; intro v' w2 hown hgrow _; rw [Nat.zero_add, List.nil_append] at hown; obtain ⟨g', cap', rfl⟩ := ownsRow_succ hown)
  go_ret
  exact ⟨g', cap', rfl, hown, ((Below.refl _ _).alloc (Nat.le_refl _) _).grown hgrow (by simp) (fun _ h => by cases h; exact Nat.le_refl _)⟩
end Go.Proofs.Ytflbaadfbjpakaa
