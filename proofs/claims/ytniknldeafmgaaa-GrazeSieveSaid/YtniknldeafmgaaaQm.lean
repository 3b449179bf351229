/- Layer 8, the specification: States. -/
import Derived.Test.YtniknldeafmgaaaQl
namespace Go.Proofs.Ytniknldeafmgaaa
set_option linter.unusedSimpArgs false
set_option linter.unusedVariables false
open Go Go.RowKit

/-- The states that begin with all but the last m of a rows. -/
def stT (a b : Nat) : Nat → (Nat → Nat) → List (Nat → Nat)
  | 0, g => [g]
  | m + 1, g => (oneF (a - (m + 1)) b g).flatMap (stT a b m)
/-- .. with at most so many choices of the next row. -/
def stU (a b m : Nat) (g : Nat → Nat) (s : Nat) : List (Nat → Nat) := ((List.range s).map (upf g (a - (m + 1)))).flatMap (stT a b m)
theorem stU_zero (a b m : Nat) (g : Nat → Nat) : stU a b m g 0 = [] := rfl
theorem stU_succ (a b m : Nat) (g : Nat → Nat) (s : Nat) : stU a b m g (s + 1) = stU a b m g s ++ stT a b m (upf g (a - (m + 1)) s) := by
  unfold stU; rw [List.range_succ, List.map_append, List.flatMap_append]; simp
theorem stU_all (a b m : Nat) (g : Nat → Nat) : stU a b m g (mo b g (a - (m + 1)) + 1) = stT a b (m + 1) g := rfl
theorem stT_step (a b : Nat) : ∀ m, m ≤ a → (brs (a - m) b).flatMap (stT a b m) = brs a b
  | 0, _ => by
    rw [Nat.sub_zero]
    show (brs a b).flatMap (fun g => [g]) = brs a b
    rw [List.flatMap_singleton']
  | m + 1, h => by
    have ih := stT_step a b m (by omega)
    rw [← ih, show a - m = (a - (m + 1)) + 1 by omega, brs, List.flatMap_assoc]
    rfl
theorem stT_all (a b : Nat) : stT a b a (fun _ => 0) = brs a b := by
  have h := stT_step a b a (Nat.le_refl _)
  rw [Nat.sub_self, brs] at h
  simpa using h
theorem stT_pos (a b : Nat) : ∀ m g, 0 < (stT a b m g).length
  | 0, g => by simp [stT]
  | m + 1, g => by
    have h := stT_pos a b m (upf g (a - (m + 1)) 0)
    rw [← stU_all]
    generalize mo b g (a - (m + 1)) = s
    induction s with
    | zero => rw [stU_succ, List.length_append]; omega
    | succ s ih => rw [stU_succ, List.length_append]; omega
theorem mo_bd {b : Nat} {g : Nat → Nat} (h : ∀ i, g i ≤ b) (k : Nat) : mo b g k ≤ b := by unfold mo; split; omega; exact h _
theorem upf_bd {b k s : Nat} {g : Nat → Nat} (h : ∀ i, g i ≤ b) (hs : s ≤ b) : ∀ i, upf g k s i ≤ b := fun i => by unfold upf; split; exact hs; exact h i
theorem stT_len (a b : Nat) (hb : b ≤ 7) : ∀ m g, (∀ i, g i ≤ b) → (stT a b m g).length ≤ 8 ^ m
  | 0, g, _ => by simp [stT]
  | m + 1, g, h => by
    have h1 := mo_bd h (a - (m + 1))
    have := flat_len (stT a b m) (8 ^ m) (oneF (a - (m + 1)) b g) (fun x hx => by
      unfold oneF at hx
      obtain ⟨s, hs, rfl⟩ := List.mem_map.1 hx
      exact stT_len a b hb m _ (upf_bd h (by have := List.mem_range.1 hs; omega)))
    have hl : (oneF (a - (m + 1)) b g).length ≤ 8 := by unfold oneF; simp; omega
    have h2 := Nat.mul_le_mul_right (8 ^ m) hl
    rw [Nat.pow_succ, Nat.mul_comm (8 ^ m)]
    unfold stT
    omega
theorem stU_len (a b m : Nat) (g : Nat → Nat) (hb : b ≤ 7) (h : ∀ i, g i ≤ b) (s : Nat) (hs : s ≤ 8) (hm : m ≤ 6) (hsb : s ≤ b + 1) : (stU a b m g s).length ≤ 2097152 := by
  have := flat_len (stT a b m) (8 ^ m) ((List.range s).map (upf g (a - (m + 1)))) (fun x hx => by
    obtain ⟨t, ht, rfl⟩ := List.mem_map.1 hx
    exact stT_len a b hb m _ (upf_bd h (by have := List.mem_range.1 ht; omega)))
  have h1 := Nat.pow_le_pow_right (n := 8) (by omega) hm
  have h2 : 8 ^ 6 = 262144 := rfl
  have h3 := Nat.mul_le_mul hs h1
  simp only [List.length_map, List.length_range] at this
  unfold stU
  omega
theorem gth_app {G G2 : List (Nat × Nat)} {r : Nat} (h : G.length ≤ r) : gth (G ++ G2) r = gth G2 (r - G.length) := by simp [gth, List.getElem?_append_right h]
theorem gth_app1 {G G2 : List (Nat × Nat)} {r : Nat} (h : r < G.length) : gth (G ++ G2) r = gth G r := by simp [gth, List.getElem?_append_left h]
theorem fAt_app {l l2 : List (Nat → Nat)} {r : Nat} (h : l.length ≤ r) : fAt (l ++ l2) r = fAt l2 (r - l.length) := by simp [fAt, List.getElem?_append_right h]
theorem fAt_app1 {l l2 : List (Nat → Nat)} {r : Nat} (h : r < l.length) : fAt (l ++ l2) r = fAt l r := by simp [fAt, List.getElem?_append_left h]
theorem rowsV_app (n : Nat) (G G2 : List (Nat × Nat)) : rowsV n (G ++ G2) = rowsV n G ++ rowsV n G2 := by simp [rowsV]
theorem TabC.app {n : Nat} {l l2 : List (Nat → Nat)} {W : World} {G G2 : List (Nat × Nat)} (h : TabC n l W G) (h2 : TabC n l2 W G2) (hl : G.length = l.length) : TabC n (l ++ l2) W (G ++ G2) := by
  intro r hr
  by_cases e : r < G.length
  · rw [gth_app1 e, fAt_app1 (by omega)]
    exact h r e
  · rw [gth_app (by omega), fAt_app (by omega), ← hl]
    exact h2 _ (by rw [List.length_append] at hr; omega)
theorem stL_put (k : Nat) (g : Nat → Nat) (x : Nat) : lI (stL k g) ++ [.int .i64 (x : Int)] = lI (stL (k + 1) (upf g k x)) := by
  have e : stL k g = stL k (upf g k x) := by
    unfold stL
    exact List.map_congr_left fun i hi => by rw [upf_ne]; have := List.mem_range.1 hi; omega
  rw [e]
  unfold stL lI
  rw [List.range_succ, List.map_append, List.map_append]
  simp [upf_at]
theorem rowsV_one {n : Nat} {G : List (Nat × Nat)} : ∀ u ∈ rowsV n G, u.oneCell' = true := fun u hu => by
  unfold rowsV at hu
  obtain ⟨p, _, rfl⟩ := List.mem_map.1 hu
  rfl
/-- A table of states was returned. -/
def StsR (a : Nat) (L : List (Nat → Nat)) (w : World) (e : Ending) (w' : World) : Prop := ∃ v G, e = .returned v ∧ G.length = L.length ∧ w'.ownsRow w.heap.size 22 1 v L.length (rowsV a G) ∧ TabC a L w' G ∧ Below w.heap.size w w'
set_option maxRecDepth 100000 in
theorem states_end (a b : Nat) (g : Nat → Nat) (B c : Nat) (w : World) (ha : 1 ≤ a) (hI : Ints w (some ⟨B, 0, none⟩) (stL a g)) :
    Calls Try.prog 45 #[.int .i64 (a : Int), .int .i64 (b : Int), .slice (some ⟨B, 0, none⟩) a c] w (StsR a [g] w) := by
  have d1 : ((a : Int) == (a : Int)) = true := by rw [beq_iff_eq]
  have hlit := Lib.hid (World.ownsRow_lit (base := w.heap.size) (e := 22) (size := 1) w #[.slice (some ⟨B, 0, none⟩) a c] 1 (Nat.le_refl _) (by unfold maxLen; omega) rfl)
  have hT : Hid (TabC a [g] (w.alloc (.cells #[.slice (some ⟨B, 0, none⟩) a c] 22)) [(B, c)]) := Lib.hid (by
    have h0 : TabC a [] w [] := fun r hr => by simp at hr
    exact (h0.snoc (c := c) rfl (cells_ints hI)).next (b1 w _))
  have hB := Lib.hid (b1 w (.cells #[.slice (some ⟨B, 0, none⟩) a c] 22))
  clear hI
  go_enter Try.func45, Try.ntmps45
  go_wp2
  go_ret
  exact ⟨_, [(B, c)], rfl, rfl, hlit.out, hT.out, hB.out⟩
end Go.Proofs.Ytniknldeafmgaaa
