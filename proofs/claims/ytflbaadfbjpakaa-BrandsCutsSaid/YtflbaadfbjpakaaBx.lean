/- Layer 2: a list of numbers becomes lines, ear by ear: in plain words; slices.Max. -/
import Derived.Test.YtflbaadfbjpakaaBw
import Derived.Test.YtflbaadfbjpakaaKb
namespace Go.Proofs.Ytflbaadfbjpakaa
open Go Go.RowKit

/-- The greatest number. -/
def maxTo (xs : List Int) : Nat → Int
  | 0 => nth xs 0
  | k + 1 => max (maxTo xs k) (nth xs (k + 1))
def maxL (xs : List Int) : Int := maxTo xs (xs.length - 1)
theorem maxTo_one {xs : List Int} {n : Nat} (h : ∀ i, i ≤ n → 1 ≤ nth xs i) : maxTo xs n = 1 ↔ ∀ i, i ≤ n → nth xs i = 1 := by
  have lo : ∀ k, k ≤ n → 1 ≤ maxTo xs k := by
    intro k
    induction k with
    | zero => intro _; exact h 0 (by omega)
    | succ k ih => intro hk; rw [maxTo]; have := ih (by omega); omega
  have : ∀ k, k ≤ n → (maxTo xs k = 1 ↔ ∀ i, i ≤ k → nth xs i = 1) := by
    intro k
    induction k with
    | zero => intro _; exact ⟨fun h i hi => by obtain rfl : i = 0 := by omega
                                               exact h, fun h => h 0 (by omega)⟩
    | succ k ih =>
      intro hk
      have e := ih (by omega)
      have l1 := lo k (by omega)
      have l2 := h (k + 1) hk
      rw [maxTo]
      constructor
      · intro hm i hi
        by_cases hik : i = k + 1
        · subst hik; omega
        · exact e.1 (by omega) i (by omega)
      · intro ha
        have := e.2 (fun i hi => ha i (by omega))
        have := ha (k + 1) (Nat.le_refl _)
        omega
  exact this n (Nat.le_refl n)
set_option maxRecDepth 100000 in
set_option maxHeartbeats 1600000 in
theorem max_any (b off n c : Nat) (xs : List Int) (w : World) (hl : xs.length = n) (h1 : 1 ≤ n) (h60 : n ≤ 1000)
    (hc : ∀ i, i < n → w.cell? ⟨b, off + i, none⟩ = some (.int .i64 (nth xs i))) :
    Calls Try.prog 79 #[.slice (some ⟨b, off, none⟩) n c] w (Only (.int .i64 (maxL xs)) w) := by
  have hm : Hid (maxL xs = maxTo xs (n - 1)) := by subst hl; exact Lib.hid rfl
  replace hc := Lib.hid hc
  have x0 : w.cell? ⟨b, off, none⟩ = some (.int .i64 (nth xs 0)) := by simpa using hc.out 0 (by omega)
  clear hl
  have hn0 : (0 : Nat) < n := by omega
  go_enter Try.func79, Try.ntmps79
  go_wp2
  clear x0
  go_loop [3, 4] (fun m i => ∃ k : Nat, 1 ≤ k ∧ k ≤ n ∧ i = .int .i64 k ∧ m = .int .i64 (maxTo xs (k - 1))) (fun _ i => n - (intOf i).toNat)
  case atStart => exact ⟨1, by omega, by omega, rfl, rfl⟩
  case round =>
    obtain ⟨k, hk1, hk, rfl, rfl⟩ := hrel
    by_cases hlt : k < n
    · have xk := hc.out k hlt
      have hi0 : (k : Int) < (n : Int) := by omega
      have es : Hid (maxTo xs k = max (maxTo xs (k - 1)) (nth xs k)) := by
        obtain ⟨q, rfl⟩ : ∃ q, k = q + 1 := ⟨k - 1, by omega⟩
        exact Lib.hid rfl
      generalize maxTo xs (k - 1) = u at *
      generalize nth xs k = v at *
      rcases Int.lt_trichotomy u v with h | rfl | h
      all_goals
        go_wp2
        go_round
        case rel => exact ⟨k + 1, by omega, by omega, by go_num, by rw [Nat.add_sub_cancel, es.out]; simp only [Value.int.injEq, true_and]; omega⟩
        case measure => simp [intOf]; omega
    · obtain rfl : k = n := by omega
      go_wp2
      go_ret
      exact Only.mk (by rw [hm.out]; rfl)
/-- The first ear. -/
def earOf (R : List Int) : Option Nat := (List.range R.length).find? fun c => decide (EarP R c)
theorem earOf_some {R : List Int} {c : Nat} (hc : c < R.length) (h : EarP R c) (hf : ∀ j, j < c → ¬ EarP R j) : earOf R = some c := by
  unfold earOf
  rw [List.find?_range_eq_some]
  exact ⟨decide_eq_true h, List.mem_range.2 hc, fun j hj => by simp [hf j hj]⟩
theorem earOf_none {R : List Int} (hf : ∀ j, j < R.length → ¬ EarP R j) : earOf R = none := by
  unfold earOf
  rw [List.find?_eq_none]
  intro j hj
  simp [hf j (List.mem_range.1 hj)]
/-- The line that cuts off the ear at c. -/
def earLine (C : List Int) (c : Nat) : Int × Int := (min (nth C ((c + C.length - 1) % C.length)) (nth C ((c + 1) % C.length)), max (nth C ((c + C.length - 1) % C.length)) (nth C ((c + 1) % C.length)))
/-- Ears are cut off, as long as there are more than three corners. -/
def runE : Nat → List Int → List Int → List (Int × Int) → Option (List Int × List (Int × Int))
  | 0, _, _, _ => none
  | f + 1, R, C, S => if C.length ≤ 3 then some (R, S) else
    match earOf R with
    | none => none
    | some c => runE f (cutL R c) (C.eraseIdx c) (S ++ [earLine C c])
/-- The numbers 0, 1, .. below n. -/
def upTo (n : Nat) : List Int := (List.range n).map Int.ofNat
theorem upTo_length (n : Nat) : (upTo n).length = n := by simp [upTo]
theorem upTo_succ (n : Nat) : upTo (n + 1) = upTo n ++ [(n : Int)] := by simp [upTo, List.range_succ]
/-- The lines of a list of numbers. -/
def ofL (xs : List Int) : Option (List (Int × Int)) :=
  match runE 13 xs (upTo xs.length) [] with
  | none => none
  | some (R, S) => if maxL R = 1 then some (sortL S) else none
/-- All numbers are from 1 to 12. -/
def Tame (R : List Int) : Prop := ∀ i, i < R.length → 1 ≤ nth R i ∧ nth R i ≤ 12
theorem Tame.fair {R : List Int} (h : Tame R) : Fair R := fun i hi => by have := h i hi; omega
theorem nth_eraseIdx {xs : List Int} {c i : Nat} (_hc : c < xs.length) : nth (xs.eraseIdx c) i = if i < c then nth xs i else nth xs (i + 1) := by
  unfold nth
  rw [List.getD_eq_getElem?_getD, List.getD_eq_getElem?_getD, List.getD_eq_getElem?_getD, List.getElem?_eraseIdx]
  split <;> rfl
theorem cutL_length {R : List Int} {c : Nat} (hc : c < R.length) : (cutL R c).length = R.length - 1 := by
  unfold cutL
  simp only []
  rw [List.length_eraseIdx_of_lt (by simpa using hc)]
  simp
theorem cutL_tame {R : List Int} {c : Nat} (h : Tame R) (hc : c < R.length) (he : EarP R c) (h3 : 3 ≤ R.length) : Tame (cutL R c) := by
  intro i hi
  rw [cutL_length hc] at hi
  unfold cutL
  simp only []
  rw [nth_eraseIdx (by simpa using hc)]
  have ha : (c + R.length - 1) % R.length < R.length := Nat.mod_lt _ (by omega)
  have hb : (c + 1) % R.length < R.length := Nat.mod_lt _ (by omega)
  have hab : (c + R.length - 1) % R.length ≠ (c + 1) % R.length := by
    intro e
    by_cases h0 : c = 0
    · subst h0
      rw [Nat.zero_add, Nat.mod_eq_of_lt (by omega), Nat.zero_add, Nat.mod_eq_of_lt (by omega)] at e
      omega
    · rw [show c + R.length - 1 = (c - 1) + R.length by omega, Nat.add_mod_right, Nat.mod_eq_of_lt (by omega)] at e
      by_cases h1 : c + 1 = R.length
      · rw [h1, Nat.mod_self] at e; omega
      · rw [Nat.mod_eq_of_lt (by omega)] at e; omega
  obtain ⟨e1, e2, e3⟩ := he
  have key : ∀ j, j < R.length → 1 ≤ nth ((R.set ((c + R.length - 1) % R.length) (nth R ((c + R.length - 1) % R.length) - 1)).set ((c + 1) % R.length) (nth (R.set ((c + R.length - 1) % R.length) (nth R ((c + R.length - 1) % R.length) - 1)) ((c + 1) % R.length) - 1)) j ∧
      nth ((R.set ((c + R.length - 1) % R.length) (nth R ((c + R.length - 1) % R.length) - 1)).set ((c + 1) % R.length) (nth (R.set ((c + R.length - 1) % R.length) (nth R ((c + R.length - 1) % R.length) - 1)) ((c + 1) % R.length) - 1)) j ≤ 12 := by
    intro j hj
    have inner : nth (R.set ((c + R.length - 1) % R.length) (nth R ((c + R.length - 1) % R.length) - 1)) ((c + 1) % R.length) = nth R ((c + 1) % R.length) := by
      rw [nth_set ha, if_neg (fun e => hab e.symm)]
    rw [inner, nth_set (by simpa using hb), nth_set ha]
    have hj' := h j hj
    have ha' := h _ ha
    have hb' := h _ hb
    split
    · omega
    · split <;> omega
  split
  · exact key i (by omega)
  · exact key (i + 1) (by omega)
end Go.Proofs.Ytflbaadfbjpakaa
