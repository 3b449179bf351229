/- Layer 5: BreedMore and BreedAho, as facts on what the functions return. -/
import Derived.Test.YtmejahoodeeijaaGreatDoorMb
import Derived.Test.YtmejahoodeeijaaGreatDoorIb
namespace Go.Proofs.YtmejahoodeeijaaGreatDoor
open Go Go.RowKit

theorem aho_some8 {m q : Nat} {L : List T3} (h : Mem m L) {t : Tr} (hg : Good q t) (hs : t.set = pw m - 1) (hx : L.all (shoB t) = true) : (bldT m L).isSome = true := by
  obtain ⟨a, b, c⟩ := full_bd h.one h.eight
  exact buildT_some hg L (List.all_eq_true.1 hx) 300 _ b a (by omega) (by rw [hs]; exact inB_refl _)
theorem Mem.num {m : Nat} {L : List T3} (h : Mem m L) : numB (m : Int) = true := by
  have := h.one
  have := h.eight
  unfold numB
  simp only [Bool.and_eq_true, decide_eq_true_eq]
  omega
theorem Mem.memE {m : Nat} {L : List T3} (h : Mem m L) (hl : L.length ≤ 60) : memE (m : Int) L = 0 := by
  rw [memE_num h.num, if_neg (by omega), if_pos]
  rw [List.all_eq_true]
  exact h.tri
theorem Mem.more {m : Nat} {L : List T3} {x : T3} (h : Mem m L) (hx : isT m x = true) : Mem m (L ++ [x]) := ⟨h.one, h.eight, fun t ht => by
  rw [List.mem_append, List.mem_singleton] at ht
  rcases ht with ht | rfl
  · exact h.tri t ht
  · exact hx⟩
theorem Mem.single {m : Nat} {L : List T3} {x : T3} (h : Mem m L) (hx : isT m x = true) : Mem m [x] := ⟨h.one, h.eight, fun t ht => by rw [List.mem_singleton] at ht; subst ht; exact hx⟩
theorem bld_isTr {m : Nat} {L : List T3} {t : Tr} (h : Mem m L) (ht : bldT m L = some t) : trO m t.txt = some t := by
  obtain ⟨hg, hs⟩ := bldT_good h.one h.eight ht
  exact trO_yes ⟨hg.mono h.eight t, rfl, hs⟩
theorem bldE_some {m : Nat} {L : List T3} {t : Tr} (h : Mem m L) (hl : L.length ≤ 60) (ht : bldT m L = some t) : bldE m L = (t.txt, 0) := by
  unfold bldE
  rw [if_pos (h.memE hl), Int.toNat_natCast, ht]
theorem bldE_none {m : Nat} {L : List T3} (h : Mem m L) (hl : L.length ≤ 60) (ht : bldT m L = none) : bldE m L = ([], 10) := by
  unfold bldE
  rw [if_pos (h.memE hl), Int.toNat_natCast, ht]
theorem bldE_ok {m : Nat} {L : List T3} (h : Mem m L) (hl : L.length ≤ 60) (he : (bldE m L).2 = 0) : ∃ t, bldT m L = some t ∧ bldE m L = (t.txt, 0) := by
  cases ht : bldT m L with
  | none => rw [bldE_none h hl ht] at he; cases he
  | some t => exact ⟨t, rfl, bldE_some h hl ht⟩
theorem bldE_of {m : Nat} {L : List T3} (h : Mem m L) (hl : L.length ≤ 60) (hs : (bldT m L).isSome = true) : (bldE m L).2 = 0 := by
  obtain ⟨t, ht⟩ := Option.isSome_iff_exists.1 hs
  rw [bldE_some h hl ht]
theorem shoE_some {m : Nat} {L : List T3} {s : List UInt8} {t : Tr} (h : Mem m L) (hl : L.length ≤ 60) (ht : trO m s = some t) : shoE m s L = (L.all (shoB t), 0) := by
  unfold shoE
  rw [if_neg (by rw [h.num]; simp), Int.toNat_natCast, ht]
  simp only []
  rw [if_pos (h.memE hl)]
theorem shoE_none {m : Nat} {L : List T3} {s : List UInt8} (h : Mem m L) (ht : trO m s = none) : shoE m s L = (false, 5) := by
  unfold shoE
  rw [if_neg (by rw [h.num]; simp), Int.toNat_natCast, ht]
theorem more_math {m : Nat} {L : List T3} {x : T3} (s : List UInt8) (h : Mem m L) (hx : isT m x = true) (hl : L.length < 60) :
    ((bldE m (L ++ [x])).2 = 0 → (bldE m L).2 = 0 ∧ shoE m (bldE m (L ++ [x])).1 L = (true, 0)) ∧
    ((bldE m L).2 = 0 → (shoE m (bldE m L).1 [x]).2 = 0 ∧ ((shoE m (bldE m L).1 [x]).1 = true → (bldE m (L ++ [x])).2 = 0)) ∧
    (shoE m s (L ++ [x])).2 = (shoE m s L).2 ∧ ((shoE m s (L ++ [x])).1 = true → (shoE m s L).1 = true) := by
  have hM := h.more hx
  have h1 := h.single hx
  have hl2 : (L ++ [x]).length ≤ 60 := by rw [List.length_append, List.length_singleton]; omega
  refine ⟨fun hf => ?_, fun he => ?_, ?_⟩
  · obtain ⟨t, ht, e⟩ := bldE_ok hM hl2 hf
    have hsh := aho_shows hM ht
    obtain ⟨hg, hs⟩ := bldT_good h.one h.eight ht
    rw [List.all_append, Bool.and_eq_true] at hsh
    refine ⟨bldE_of h (by omega) (aho_some h hg hs hsh.1), ?_⟩
    rw [e, shoE_some h (by omega) (bld_isTr hM ht), hsh.1]
  · obtain ⟨t, ht, e⟩ := bldE_ok h (by omega) he
    rw [e, shoE_some h1 (by simp) (bld_isTr h ht)]
    refine ⟨rfl, fun hs1 => ?_⟩
    obtain ⟨hg, hs⟩ := bldT_good h.one h.eight ht
    refine bldE_of hM hl2 (aho_some hM hg hs ?_)
    rw [List.all_append, aho_shows h ht, Bool.true_and]
    exact hs1
  · cases ht : trO m s with
    | none => rw [shoE_none hM ht, shoE_none h ht]; exact ⟨rfl, fun h => by cases h⟩
    | some t =>
      rw [shoE_some hM hl2 ht, shoE_some h (by omega) ht]
      refine ⟨rfl, fun hs1 => ?_⟩
      rw [List.all_append, Bool.and_eq_true] at hs1
      exact hs1.1
end Go.Proofs.YtmejahoodeeijaaGreatDoor
