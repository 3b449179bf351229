/- Layer 5, by the specification: All triples. -/
import Derived.Test.YtfdaljekehkkaaaGreatDoorNb
namespace Go.Proofs.YtfdaljekehkkaaaGreatDoor
open Go Go.RowKit

/-- The triples of a and b with a third beast below k. -/
def rowC (a b : Nat) : Nat → List T3
  | 0 => []
  | k + 1 => if k ≠ a ∧ k ≠ b then rowC a b k ++ [((a : Int), (b : Int), (k : Int))] else rowC a b k
/-- Those of a with a second beast b, a < b < k. -/
def rowB (n a : Nat) : Nat → List T3
  | 0 => []
  | k + 1 => if a < k then rowB n a k ++ rowC a k n else rowB n a k
def rowA (n : Nat) : Nat → List T3
  | 0 => []
  | k + 1 => rowA n k ++ rowB n k n
def allL (n : Nat) : List T3 := rowA n n
theorem rowC_len (a b k : Nat) : (rowC a b k).length ≤ k := by
  induction k with
  | zero => exact Nat.le_refl _
  | succ k ih =>
    rw [rowC]
    split
    · rw [List.length_append, List.length_singleton]; omega
    · omega
theorem rowB_len {n : Nat} (hn : n ≤ 8) (a k : Nat) : (rowB n a k).length ≤ k * 8 := by
  induction k with
  | zero => exact Nat.le_refl _
  | succ k ih =>
    rw [rowB]
    have := rowC_len a k n
    split
    · rw [List.length_append]; omega
    · omega
theorem rowA_len {n : Nat} (hn : n ≤ 8) (k : Nat) : (rowA n k).length ≤ k * 64 := by
  induction k with
  | zero => exact Nat.le_refl _
  | succ k ih =>
    rw [rowA]
    have := rowB_len hn k n
    rw [List.length_append]; omega
theorem rowB_low (n a : Nat) : ∀ k, k ≤ a + 1 → rowB n a k = [] := by
  intro k
  induction k with
  | zero => intro _; rfl
  | succ k ih => intro h; rw [rowB, if_neg (by omega), ih (by omega)]
def NewT3 (L : List T3) (w : World) (e : Ending) (w' : World) : Prop := ∃ v, e = .returned v ∧ w'.ownsRow w.heap.size 36 3 v L.length (cT L) ∧ Below w.heap.size w w'
theorem cell_three_new (w : World) (x y z : Value) (t : TypeId) : ∀ j u, [x, y, z][j]? = some u → (w.alloc (.cells #[x, y, z] t)).cell? (Addr.add ⟨w.heap.size, 0, none⟩ j) = some u := by
  intro j u hj
  have hjl := (List.getElem?_eq_some_iff.1 hj).1
  have ha : Addr.add ⟨w.heap.size, 0, none⟩ j = ⟨w.heap.size, j, none⟩ := by unfold Addr.add; split <;> simp_all
  rw [ha]
  exact (Blk.new w t #[x, y, z]).c j (by simpa using hj)
set_option maxRecDepth 100000 in
set_option maxHeartbeats 4000000 in
theorem refAll_any (n : Nat) (hn : n ≤ 8) (w : World) : Calls Tryz.prog 13 #[.int .i64 (n : Nat)] w (NewT3 (allL n) w) := by
  obtain ⟨i0, hi, hz0, hz1, hz2⟩ := info_parts infoTrip
  have G0 := Lib.hid hi
  have G1 := Lib.hid hz0
  have G2 := Lib.hid hz1
  have G3 := Lib.hid hz2
  clear hi hz0 hz1 hz2
  go_enter Tryz.func13, Tryz.ntmps13
  go_wp2
  go_loopw [3, 4] (fun v i wr => ∃ a : Nat, a ≤ n ∧ i = .int .i64 a ∧ wr.ownsRow w.heap.size 36 3 v (rowA n a).length (cT (rowA n a)) ∧ Below w.heap.size w wr) (fun _ i _ => n - (intOf i).toNat)
  case atStart => exact ⟨0, Nat.zero_le _, rfl, World.ownsRow_nil _ _ _ _, Below.refl _ _⟩
  case round =>
    obtain ⟨a, ha, rfl, hown, B0⟩ := hrel
    have hA := rowA_len hn a
    by_cases hlt : a < n
    · have hai : (a : Int) < (n : Int) := by omega
      replace hown := Lib.hid hown
      replace B0 := Lib.hid B0
      have eA := Lib.hid (show rowA n (a + 1) = rowA n a ++ rowB n a n from rfl)
      generalize rowA n a = LA at *
      go_wp2
      go_loopw [3, 5] (fun v i wr => ∃ b : Nat, a + 1 ≤ b ∧ b ≤ n ∧ i = .int .i64 b ∧ wr.ownsRow w.heap.size 36 3 v (LA ++ rowB n a b).length (cT (LA ++ rowB n a b)) ∧ Below w.heap.size w wr) (fun _ i _ => n - (intOf i).toNat)
      case atStart => exact ⟨a + 1, Nat.le_refl _, by omega, by go_num, by rw [rowB_low n a (a + 1) (Nat.le_refl _), List.append_nil]; exact hown.out, B0.out⟩
      case round =>
        clear hown B0
        obtain ⟨b, hab, hb, rfl, hown, B0⟩ := hrel
        have hB := rowB_len hn a b
        by_cases hltb : b < n
        · have hbi : (b : Int) < (n : Int) := by omega
          replace hown := Lib.hid hown
          replace B0 := Lib.hid B0
          have eB := Lib.hid (show rowB n a (b + 1) = rowB n a b ++ rowC a b n by rw [rowB, if_pos (by omega)])
          have hlen : (LA ++ rowB n a b).length ≤ 8 * 64 + 64 := by rw [List.length_append]; omega
          have eAB := Lib.hid (show LA ++ rowB n a (b + 1) = (LA ++ rowB n a b) ++ rowC a b n by rw [eB.out, List.append_assoc])
          generalize LA ++ rowB n a b = LB at *
          go_wp2
          go_loopw [3, 6] (fun v i wr => ∃ c : Nat, c ≤ n ∧ i = .int .i64 c ∧ wr.ownsRow w.heap.size 36 3 v (LB ++ rowC a b c).length (cT (LB ++ rowC a b c)) ∧ Below w.heap.size w wr) (fun _ i _ => n - (intOf i).toNat)
          case atStart => exact ⟨0, Nat.zero_le _, rfl, by rw [rowC, List.append_nil]; exact hown.out, B0.out⟩
          case round =>
            clear hown B0
            obtain ⟨c, hc, rfl, hown, B0⟩ := hrel
            have hC := rowC_len a b c
            by_cases hltc : c < n
            · have hci : (c : Int) < (n : Int) := by omega
              have eC := Lib.hid (show rowC a b (c + 1) = if c ≠ a ∧ c ≠ b then rowC a b c ++ [((a : Int), (b : Int), (c : Int))] else rowC a b c from rfl)
              have hlenC : (LB ++ rowC a b c).length ≤ 1000 := by rw [List.length_append]; omega
              by_cases h1 : c = a
              · subst h1
                rw [if_neg (by simp)] at eC
                replace hown := Lib.hid hown
                go_wp2
                go_roundw
                case rel => exact ⟨c + 1, by omega, by go_num, by rw [eC.out]; exact hown.out, B0⟩
                case measure => simp [intOf]; omega
              · have n1 : ((c : Int) == (a : Int)) = false := by rw [beq_eq_false_iff_ne]; omega
                have n1b : ((c : Int) != (a : Int)) = true := by rw [bne_iff_ne]; omega
                by_cases h2 : c = b
                · subst h2
                  rw [if_neg (by simp)] at eC
                  replace hown := Lib.hid hown
                  go_wp2
                  go_roundw
                  case rel => exact ⟨c + 1, by omega, by go_num, by rw [eC.out]; exact hown.out, B0⟩
                  case measure => simp [intOf]; omega
                · have n2b : ((c : Int) != (b : Int)) = true := by rw [bne_iff_ne]; omega
                  rw [if_pos ⟨h1, h2⟩] at eC
                  have eL := Lib.hid (show LB ++ rowC a b (c + 1) = (LB ++ rowC a b c) ++ [((a : Int), (b : Int), (c : Int))] by rw [eC.out, List.append_assoc])
                  generalize LB ++ rowC a b c = LC at *
                  have hs := B0.size
                  go_wp2_with (at_builtin; refine wpList_append_own _ rfl _ _ 22 rfl w.heap.size 36 i0 (.agg #[.int .i64 0, .int .i64 0, .int .i64 0]) 3 24 Tryz.underlying22 G0.out G1.out G2.out G3.out rfl (by decide) _ _ _ rfl (hown.alloc _) ⟨_, 0, none⟩ 1 1 [.int .i64 (a : Int), .int .i64 (b : Int), .int .i64 (c : Int)] rfl rfl (cell_three_new _ _ _ _ _) (by simp [Value.oneCell']) (by unfold maxLen; omega) (by omega) (by simp; omega) ?_; intro v' w4 hown4 hgrow _)
                  have hq := hown.lt
                  have B4 := (B0.alloc hs (.cells #[.int .i64 (a : Int), .int .i64 (b : Int), .int .i64 (c : Int)] 36)).grown hgrow (by simp; omega) (fun q hqq => by have := (hq q hqq).1; omega)
                  go_roundw
                  case rel => exact ⟨c + 1, by omega, by go_num, by rw [eL.out, cT_append, List.length_append, List.length_singleton]; exact hown4, B4⟩
                  case measure => simp [intOf]; omega
            · obtain rfl : c = n := by omega
              rw [← eAB.out] at hown
              replace hown := Lib.hid hown
              go_wp2
              go_roundw
              case rel => exact ⟨b + 1, by omega, by omega, by go_num, hown.out, B0⟩
              case measure => simp [intOf]; omega
        · obtain rfl : b = n := by omega
          rw [← eA.out] at hown
          replace hown := Lib.hid hown
          go_wp2
          go_roundw
          case rel => exact ⟨a + 1, by omega, by go_num, hown.out, B0⟩
          case measure => simp [intOf]; omega
    · obtain rfl : a = n := by omega
      replace hown := Lib.hid hown
      go_wp2
      go_ret
      exact ⟨_, rfl, hown.out, B0⟩
end Go.Proofs.YtfdaljekehkkaaaGreatDoor
