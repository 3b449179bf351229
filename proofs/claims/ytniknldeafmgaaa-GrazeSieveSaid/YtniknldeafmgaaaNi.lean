/- Layer 8, mathematics: how many words are the same when turned. -/
import Derived.Test.YtniknldeafmgaaaNh
import Derived.Test.YtniknldeafmgaaaNe
namespace Go.Proofs.Ytniknldeafmgaaa
set_option linter.unusedSimpArgs false
set_option linter.unusedVariables false

/-- Is the word of a list of rows the same, d letters moved to its end? -/
def wsL (b d : Nat) (L : List Nat) : Bool := rotN ((twL b L.reverse 0).map lett) d == (twL b L.reverse 0).map lett
set_option maxRecDepth 100000 in
theorem words6 : ([1, 2, 3, 4, 5, 6].all fun a => [1, 2, 3, 4, 5, 6].all fun b => (List.range (a + b)).all fun d => decide (8 < a + b) || (sts b a).countP (wsL b d) == (sts b a).countP (fun L => itl b d L == L)) = true := by decide +kernel
def wsB (a b d : Nat) (f : Nat → Nat) : Bool := rotN (wordF a b f) d == wordF a b f
theorem words_same {a b d : Nat} (ha : 1 ≤ a ∧ a ≤ 6) (hb : 1 ≤ b ∧ b ≤ 6) (h8 : a + b ≤ 8) (hd : d < a + b) : (brs a b).countP (wsB a b d) = sameN a b d := by
  rw [countP_sts (q := wsL b d) (fun f _ => by unfold wsB wsL; rw [word_L ha.1]), sameN_sts ha hb]
  have h := words6
  rw [List.all_eq_true] at h
  have h := h a (by simp; omega)
  rw [List.all_eq_true] at h
  have h := h b (by simp; omega)
  rw [List.all_eq_true] at h
  have h := h d (List.mem_range.2 hd)
  rw [decide_eq_false (by omega)] at h
  simpa using h
theorem chN_bd : ((List.range 13).all fun n => (List.range (n + 1)).all fun i => decide (chN n i ≤ 1000)) = true := by decide +kernel
theorem chN_le {n i : Nat} (hn : n ≤ 12) (hi : i ≤ n) : chN n i ≤ 1000 := by
  have h := chN_bd
  rw [List.all_eq_true] at h
  have h := h n (List.mem_range.2 (by omega))
  rw [List.all_eq_true] at h
  have h := h i (List.mem_range.2 (by omega))
  simpa using h
theorem gcd_tmod (u v : Int) : Int.gcd v (u.tmod v) = Int.gcd u v := by
  unfold Int.gcd
  rw [Int.natAbs_tmod]
  exact (Nat.gcd_comm _ _).trans ((Nat.gcd_rec v.natAbs u.natAbs).symm.trans (Nat.gcd_comm _ _))
end Go.Proofs.Ytniknldeafmgaaa
