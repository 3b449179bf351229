/- Layer 2: Cut, by both sides. Layer 2: Cut where the specification refuses; Glue, by the program. Layer 2: Glue, by both sides. -/
import Derived.Test.YtkbdclladfjmcaaDd
namespace Go.Proofs.Ytkbdclladfjmcaa
section
open Go Go.RowKit

/-- A list of numbers and an error came back. -/
def GotI (ys : List Int) (err : Int) (w : World) (e : Ending) (w' : World) : Prop :=
  ∃ a cap, e = .returned (.tuple #[.slice a ys.length cap, .int .i64 err]) ∧ Ints w' a ys ∧ ys.length ≤ cap ∧ Below w.heap.size w w'
theorem GotI.none (err : Int) {w w' : World} (h : Below w.heap.size w w') : GotI [] err w (.returned (.tuple #[.slice none 0 0, .int .i64 err])) w' := ⟨_, _, rfl, .inl rfl, Nat.le_refl _, h⟩
def cutE (xs : List Int) (c : Int) : Int := if RoundP xs ∧ CornP xs.length c then if xs.length = 3 ∨ ¬ EarP xs c.toNat then 9 else 0 else 2
def cutO (xs : List Int) (c : Int) : List Int := if cutE xs c = 0 then cutL xs c.toNat else []
theorem cut_arg {xs : List Int} {c : Int} (h : ¬ (RoundP xs ∧ CornP xs.length c)) : cutE xs c = 2 ∧ cutO xs c = [] := by
  have : cutE xs c = 2 := by unfold cutE; rw [if_neg h]
  exact ⟨this, by unfold cutO; rw [this]; rfl⟩
theorem cut_state {xs : List Int} {c : Int} (h : RoundP xs ∧ CornP xs.length c) (k : xs.length = 3 ∨ ¬ EarP xs c.toNat) : cutE xs c = 9 ∧ cutO xs c = [] := by
  have : cutE xs c = 9 := by unfold cutE; rw [if_pos h, if_pos k]
  exact ⟨this, by unfold cutO; rw [this]; rfl⟩
theorem cut_ok {xs : List Int} {c : Int} (h : RoundP xs ∧ CornP xs.length c) (k : ¬ (xs.length = 3 ∨ ¬ EarP xs c.toNat)) : cutE xs c = 0 ∧ cutO xs c = cutL xs c.toNat := by
  have : cutE xs c = 0 := by unfold cutE; rw [if_pos h, if_neg k]
  exact ⟨this, by unfold cutO; rw [this]; rfl⟩
theorem erase_take_succ (zs : List Int) (c i : Nat) (hi : i < zs.length) : (zs.take (i + 1)).eraseIdx c = if i = c then (zs.take i).eraseIdx c else (zs.take i).eraseIdx c ++ [nth zs i] := by
  have e : zs.take (i + 1) = zs.take i ++ [nth zs i] := by
    rw [List.take_add_one]
    congr 1
    simp [nth, hi]
  rw [e]
  have hl : (zs.take i).length = i := by simp; omega
  by_cases h : i = c
  · subst h
    rw [if_pos rfl, List.eraseIdx_append_of_length_le (by omega), hl, Nat.sub_self, List.eraseIdx_of_length_le (l := zs.take i) (by omega)]
    simp
  · rw [if_neg h]
    by_cases h2 : c < i
    · rw [List.eraseIdx_append_of_lt_length (by omega)]
    · rw [List.eraseIdx_append_of_length_le (by omega), hl, List.eraseIdx_of_length_le (l := zs.take i) (by omega)]
      congr 1
      exact List.eraseIdx_of_length_le (by simp; omega)
/-- The list whose numbers beside c are made less by 1. -/
def lessL (xs : List Int) (c : Nat) : List Int := (xs.set ((c + xs.length - 1) % xs.length) (nth xs ((c + xs.length - 1) % xs.length) - 1)).set ((c + 1) % xs.length) (nth (xs.set ((c + xs.length - 1) % xs.length) (nth xs ((c + xs.length - 1) % xs.length) - 1)) ((c + 1) % xs.length) - 1)
theorem cutL_less (xs : List Int) (c : Nat) : cutL xs c = (lessL xs c).eraseIdx c := rfl
theorem lessL_length (xs : List Int) (c : Nat) : (lessL xs c).length = xs.length := by simp [lessL]
theorem nth_lessL {xs : List Int} {c k : Nat} (h3 : 3 ≤ xs.length) (hc : c < xs.length) : nth (lessL xs c) k = if k = (c + 1) % xs.length ∨ k = (c + xs.length - 1) % xs.length then nth xs k - 1 else nth xs k := by
  have e1 : (c + xs.length - 1) % xs.length < xs.length := Nat.mod_lt _ (by omega)
  have e2 : (c + 1) % xs.length < xs.length := Nat.mod_lt _ (by omega)
  have hne : (c + xs.length - 1) % xs.length ≠ (c + 1) % xs.length := by
    rw [mod_small (by omega), mod_small (by omega)]
    split <;> split <;> omega
  unfold lessL
  rw [nth_set (by simpa using e2), nth_set e1, nth_set e1]
  by_cases h1 : k = (c + 1) % xs.length
  · rw [if_pos h1, if_neg (fun h => hne h.symm), if_pos (.inl h1), h1]
  · by_cases h2 : k = (c + xs.length - 1) % xs.length
    · rw [if_neg h1, if_pos h2, if_pos (.inr h2), h2]
    · rw [if_neg h1, if_neg h2, if_neg (by omega)]
end
section
open Go Go.RowKit
/-- The list with a 1 behind c, whose neighbours are made greater by 1. -/
def glueL (xs : List Int) (c : Nat) : List Int := insV (bump (bump xs c) ((c + 1) % xs.length)) (c + 1) 1
theorem glueL_length (xs : List Int) (c : Nat) (hc : c < xs.length) : (glueL xs c).length = xs.length + 1 := by
  unfold glueL
  rw [insV_length _ _ _ (by rw [bump_length, bump_length]; omega), bump_length, bump_length]
end
section
open Go Go.RowKit

def glueE (xs : List Int) (c : Int) : Int := if RoundP xs ∧ CornP xs.length c then if xs.length = 12 then 8 else if nth xs c.toNat = 12 ∨ nth xs ((c.toNat + 1) % xs.length) = 12 then 4 else 0 else 2
def glueO (xs : List Int) (c : Int) : List Int := if glueE xs c = 0 then glueL xs c.toNat else []
theorem glue_none {xs : List Int} {c e : Int} (h : glueE xs c = e) (h0 : e ≠ 0) : glueO xs c = [] := by unfold glueO; rw [h, if_neg h0]
theorem glue_some {xs : List Int} {c : Int} (h : glueE xs c = 0) : glueO xs c = glueL xs c.toNat := by unfold glueO; rw [h, if_pos rfl]
/-- What the specification has written before corner i. -/
def gT (zs : List Int) (c i : Nat) : List Int := if i ≤ c then zs.take i else insV (zs.take i) (c + 1) 1
theorem take_nth {zs : List Int} {i : Nat} (hi : i < zs.length) : zs.take (i + 1) = zs.take i ++ [nth zs i] := by
  rw [List.take_add_one]
  congr 1
  simp [nth, hi]
theorem gT_succ {zs : List Int} {c i : Nat} (hi : i < zs.length) : gT zs c (i + 1) = if i = c then gT zs c i ++ [nth zs i] ++ [1] else gT zs c i ++ [nth zs i] := by
  have hl : (zs.take i).length = i := by simp; omega
  by_cases h1 : i < c
  · have e1 : gT zs c (i + 1) = zs.take (i + 1) := by unfold gT; rw [if_pos (by omega)]
    have e2 : gT zs c i = zs.take i := by unfold gT; rw [if_pos (by omega)]
    rw [e1, e2, if_neg (by omega), take_nth hi]
  · by_cases h2 : i = c
    · subst h2
      have e1 : gT zs i (i + 1) = insV (zs.take (i + 1)) (i + 1) 1 := by unfold gT; rw [if_neg (by omega)]
      have e2 : gT zs i i = zs.take i := by unfold gT; rw [if_pos (by omega)]
      rw [e1, e2, if_pos rfl, take_nth hi]
      unfold insV
      rw [List.take_of_length_le (by simp [hl]), List.drop_eq_nil_of_le (by simp [hl])]
    · have e1 : gT zs c (i + 1) = insV (zs.take (i + 1)) (c + 1) 1 := by unfold gT; rw [if_neg (by omega)]
      have e2 : gT zs c i = insV (zs.take i) (c + 1) 1 := by unfold gT; rw [if_neg (by omega)]
      rw [e1, e2, if_neg h2, take_nth hi]
      unfold insV
      rw [List.take_append_of_le_length (by omega), List.drop_append_of_le_length (by omega)]
      simp
theorem gT_length {zs : List Int} {c i : Nat} (hi : i ≤ zs.length) : (gT zs c i).length ≤ i + 1 := by
  have hl : (zs.take i).length = i := by simp; omega
  unfold gT
  split
  · omega
  · rw [insV_length _ _ _ (by omega)]; omega
theorem gT_end {zs : List Int} {c n : Nat} (hn : zs.length = n) (hc : c < n) : gT zs c n = insV zs (c + 1) 1 := by
  unfold gT
  rw [if_neg (by omega), List.take_of_length_le (by omega)]
theorem lI_snoc (ys : List Int) (y : Int) : lI (ys ++ [y]) = lI ys ++ [.int .i64 y] := by simp [lI]
end
end Go.Proofs.Ytkbdclladfjmcaa
