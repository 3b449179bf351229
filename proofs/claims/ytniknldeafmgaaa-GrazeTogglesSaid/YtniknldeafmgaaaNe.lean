/- Layer 8, mathematics: a sweep moves the word's first letter to its end, by trying all states. -/
import Derived.Test.YtniknldeafmgaaaNd
import Derived.Test.YtniknldeafmgaaaNc
namespace Go.Proofs.Ytniknldeafmgaaa
set_option linter.unusedSimpArgs false
set_option linter.unusedVariables false

/-- A plot of a list of rows is turned; the first row can have m. -/
def turnL : Nat → List Nat → Nat → Nat → List Nat
  | _, [], _, _ => []
  | m, x :: xs, 0, j => if j = x ∧ j < m then (x + 1) :: xs else if j + 1 = x ∧ xs.headD 0 ≤ j then (x - 1) :: xs else x :: xs
  | _, x :: xs, i + 1, j => x :: turnL x xs i j
/-- The plots of one line, in the rows below the n-th. -/
def lineL (a b s : Nat) : Nat → List Nat → List Nat
  | 0, L => L
  | n + 1, L => if a ≤ n + s ∧ n + s < a + b then turnL b (lineL a b s n L) n (n + s - a) else lineL a b s n L
/-- The first n lines. -/
def swL (a b : Nat) : Nat → List Nat → List Nat
  | 0, L => L
  | n + 1, L => lineL a b (n + 1) a (swL a b n L)
/-- The word of rows, the last one first. -/
def twL (b : Nat) : List Nat → Nat → List Nat
  | [], p => List.replicate (b - p) 0
  | x :: xs, p => List.replicate (x - p) 0 ++ 1 :: twL b xs x
def rot1 : List Nat → List Nat
  | [] => []
  | x :: xs => xs ++ [x]
set_option maxRecDepth 100000 in
theorem mv6 : all6 (fun a b L => twL b (swL a b (a + b - 1) L).reverse 0 == rot1 (twL b L.reverse 0)) = true := by decide +kernel
theorem turnL_eq (a b : Nat) (g : Nat → Nat) : ∀ n r i j, r + n = a → i < n → turnL (mo b g r) (stR g r n) i j = stR (tnf a b g (r + i) j) r n
  | 0, r, i, j, _, hi => by omega
  | n + 1, r, 0, j, h, _ => by
    have el : (stR g (r + 1) n).headD 0 = lea a g r := by
      rw [stR_head]
      unfold lea
      by_cases hn : n = 0
      · rw [if_pos hn, if_pos (by omega)]
      · rw [if_neg hn, if_neg (by omega)]
    have et : stR (tnf a b g r j) (r + 1) n = stR g (r + 1) n := stR_congr fun i h1 h2 => by rw [tnf_eq, upf_ne _ _ (by omega)]
    have eh : tnf a b g r j r = tv (mo b g r) (lea a g r) (g r) j := by rw [tnf_eq, upf_at]
    simp only [stR, turnL, el, Nat.add_zero, et, eh]
    unfold tv
    split
    · rfl
    · split <;> rfl
  | n + 1, r, i + 1, j, h, hi => by
    have ih := turnL_eq a b g n (r + 1) i j (by omega) (by omega)
    rw [mo_succ] at ih
    have eh : tnf a b g (r + (i + 1)) j r = g r := by rw [tnf_eq, upf_ne _ _ (by omega)]
    simp only [stR, turnL, eh, ih, show r + 1 + i = r + (i + 1) by omega]
theorem lineL_eq (a b s : Nat) (g : Nat → Nat) (d : Int) (hd : d = (s : Int) - (a : Int)) : ∀ n, n ≤ a → lineL a b s n (stR g 0 a) = stR (swR a b g d n) 0 a
  | 0, _ => rfl
  | n + 1, h => by
    have ih := lineL_eq a b s g d hd n (by omega)
    by_cases c : a ≤ n + s ∧ n + s < a + b
    · have hH : HasP a b (n : Int) ((n : Int) + d) := by unfold HasP; omega
      rw [swR_yes hH]
      unfold lineL
      rw [if_pos c, ih]
      have := turnL_eq a b (swR a b g d n) a 0 n (n + s - a) (by omega) (by omega)
      rw [Nat.zero_add] at this
      have e : ((n : Int) + d).toNat = n + s - a := by omega
      rw [e, ← this]; rfl
    · have hH : ¬ HasP a b (n : Int) ((n : Int) + d) := by unfold HasP; omega
      rw [swR_no hH]
      unfold lineL
      rw [if_neg c, ih]
theorem swL_eq (a b : Nat) (g : Nat → Nat) : ∀ n, swL a b n (stR g 0 a) = stR (swF a b g n) 0 a
  | 0 => rfl
  | n + 1 => by
    have ih := swL_eq a b g n
    unfold swL swF
    rw [ih, lineL_eq a b (n + 1) _ (1 - (a : Int) + (n : Int)) (by omega) a (Nat.le_refl _)]
/-- The rows, the last one first. -/
def rvL (g : Nat → Nat) : Nat → List Nat
  | 0 => []
  | m + 1 => g m :: rvL g m
theorem stR_snoc (g : Nat → Nat) : ∀ n r, stR g r (n + 1) = stR g r n ++ [g (r + n)]
  | 0, r => rfl
  | n + 1, r => by
    have ih := stR_snoc g n (r + 1)
    rw [stR, ih, stR, show r + 1 + n = r + (n + 1) by omega]; rfl
theorem rev_st (g : Nat → Nat) : ∀ n, (stR g 0 n).reverse = rvL g n
  | 0 => rfl
  | n + 1 => by rw [stR_snoc, List.reverse_append, rev_st g n, Nat.zero_add]; rfl
/-- The letter of a sign. -/
def lett (x : Nat) : UInt8 := if x = 1 then 117 else 114
theorem tw_rv (b : Nat) (g : Nat → Nat) : ∀ m p, (twL b (rvL g m) p).map lett = twF b g m p
  | 0, p => by rw [rvL, twL, twF, List.map_replicate]; rfl
  | m + 1, p => by
    rw [rvL, twL, twF, List.map_append, List.map_replicate, List.map_cons, tw_rv b g m]; rfl
theorem word_L {a b : Nat} (h : 1 ≤ a) (g : Nat → Nat) : wordF a b g = (twL b (stR g 0 a).reverse 0).map lett := by
  rw [rev_st, tw_rv, word_tw h]
/-- The first n letters moved to the end. -/
def rotN (l : List UInt8) (n : Nat) : List UInt8 := l.drop n ++ l.take n
theorem word_sweep {a b : Nat} {g : Nat → Nat} (h : IsS a b g) : wordF a b (sweF a b g) = rotN (wordF a b g) 1 := by
  have := all6_at mv6 h
  rw [beq_iff_eq] at this
  rw [swL_eq] at this
  rw [word_L h.p.a1, word_L h.p.a1]
  unfold sweF
  rw [this]
  generalize twL b (stR g 0 a).reverse 0 = l
  cases l with
  | nil => rfl
  | cons x l => simp [rot1, rotN]
theorem rot_step (l : List UInt8) (n : Nat) (h : n < l.length) : rotN (rotN l n) 1 = rotN l (n + 1) := by
  unfold rotN
  rw [List.drop_eq_getElem_cons h, List.take_succ_eq_append_getElem h]
  simp only [List.cons_append, List.drop_succ_cons, List.drop_zero, List.take_succ_cons, List.take_zero, List.append_assoc]
/-- The state behind n sweeps. -/
def sweI (a b : Nat) (g : Nat → Nat) : Nat → Nat → Nat
  | 0 => g
  | n + 1 => sweF a b (sweI a b g n)
theorem sweI_S {a b : Nat} {g : Nat → Nat} (h : IsS a b g) : ∀ n, IsS a b (sweI a b g n)
  | 0 => h
  | n + 1 => sweF_S (sweI_S h n)
theorem word_sweI {a b : Nat} {g : Nat → Nat} (h : IsS a b g) : ∀ n, n ≤ a + b → wordF a b (sweI a b g n) = rotN (wordF a b g) n
  | 0, _ => by unfold rotN; simp [sweI]
  | n + 1, hn => by
    rw [sweI, word_sweep (sweI_S h n), word_sweI h n (by omega), rot_step _ _ (by rw [(word_W h).len]; omega)]
theorem sweeps_back {a b : Nat} {g : Nat → Nat} (h : IsS a b g) : sweI a b g (a + b) = g := by
  refine word_inj (sweI_S h _) h ?_
  rw [word_sweI h _ (Nat.le_refl _)]
  unfold rotN
  rw [← (word_W h).len, List.drop_length, List.take_length]; rfl
end Go.Proofs.Ytniknldeafmgaaa
