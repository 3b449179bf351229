/- Layer 2: Count, by the specification: a sum over the triangle at one side. -/
import Derived.Test.YtflbaadfbjpakaaCb
namespace Go.Proofs.Ytflbaadfbjpakaa
open Go Go.RowKit

def manyK (k : Nat) : Int := if k < 2 then 0 else if k = 2 then 1 else catT (k - 2)
def manyL (q : Nat) : List Int := (List.range q).map manyK
/-- The sum from 2 to below j. -/
def sumK (m : Nat) : Nat → Int
  | 0 => 0
  | j + 1 => sumK m j + if 2 ≤ j then manyK j * manyK (m + 1 - j) else 0
theorem manyL_nth (q i : Nat) (h : i < q) : nth (manyL q) i = manyK i := by simp [nth, manyL, h]
theorem manyL_length (q : Nat) : (manyL q).length = q := by simp [manyL]
theorem manyL_succ (q : Nat) : manyL (q + 1) = manyL q ++ [manyK q] := by simp [manyL, List.range_succ]
theorem manyK_bd : ∀ k, k ≤ 12 → 0 ≤ manyK k ∧ manyK k ≤ 16796 := by decide
theorem sumK_all : ∀ m, 4 ≤ m → m ≤ 12 → sumK m m = manyK m := by
  intro m h1 h2
  have : m = 4 ∨ m = 5 ∨ m = 6 ∨ m = 7 ∨ m = 8 ∨ m = 9 ∨ m = 10 ∨ m = 11 ∨ m = 12 := by omega
  rcases this with rfl | rfl | rfl | rfl | rfl | rfl | rfl | rfl | rfl <;> decide
theorem sumK_bd : ∀ m, 4 ≤ m → m ≤ 12 → ∀ j, j ≤ m → 0 ≤ sumK m j ∧ sumK m j ≤ 16796 := by
  intro m h1 h2
  have : m = 4 ∨ m = 5 ∨ m = 6 ∨ m = 7 ∨ m = 8 ∨ m = 9 ∨ m = 10 ∨ m = 11 ∨ m = 12 := by omega
  rcases this with rfl | rfl | rfl | rfl | rfl | rfl | rfl | rfl | rfl <;> decide
theorem sumK_succ (m j : Nat) (h : 2 ≤ j) : sumK m (j + 1) = sumK m j + manyK j * manyK (m + 1 - j) := by rw [sumK, if_pos h]
set_option maxRecDepth 100000 in
set_option maxHeartbeats 4000000 in
theorem refCount_in (n : Nat) (w : World) (h3 : 3 ≤ n) (h12 : n ≤ 12) : Calls Try.prog 43 #[.int .i64 n] w (Ret (.tuple #[.int .i64 (catT (n - 2)), .int .i64 0]) w) := by
  obtain ⟨i0, hi, hz0, hz1, hz2⟩ := info_parts infoInt
  have G0 := Lib.hid hi
  have G1 := Lib.hid hz0
  have G2 := Lib.hid hz1
  have G3 := Lib.hid hz2
  clear hi hz0 hz1 hz2
  go_enter Try.func43, Try.ntmps43
  go_wp2
  have hown0 : (w.alloc (.cells #[.int .i64 0, .int .i64 0, .int .i64 1, .int .i64 1] 3)).ownsRow w.heap.size 3 1 (.slice (some ⟨w.heap.size, 0, none⟩) 4 4) 4 (lI (manyL 4)) :=
    World.ownsRow_lit w #[.int .i64 0, .int .i64 0, .int .i64 1, .int .i64 1] 4 (Nat.le_refl _) (by decide) rfl
  have B0 := b1 w (.cells #[.int .i64 0, .int .i64 0, .int .i64 1, .int .i64 1] 3)
  go_loopw [4, 5] (fun v i wr => ∃ (m : Nat) (g cap : Nat), 4 ≤ m ∧ m ≤ 13 ∧ (m = 4 ∨ m ≤ n + 1) ∧ i = .int .i64 m ∧ v = .slice (some ⟨g, 0, none⟩) m cap ∧ wr.ownsRow w.heap.size 3 1 (.slice (some ⟨g, 0, none⟩) m cap) m (lI (manyL m)) ∧ Below w.heap.size w wr) (fun _ i _ => 14 - (intOf i).toNat)
  case atStart => exact ⟨4, _, 4, by omega, by omega, .inl rfl, rfl, rfl, hown0, B0⟩
  case round =>
    clear hown0 B0
    obtain ⟨m, g, cap, h4, hm13, hmn, rfl, rfl, hown, B0⟩ := hrel
    by_cases hlt : m ≤ n
    · go_wp2
      go_loopw [6, 7] (fun s i wr => ∃ j : Nat, 2 ≤ j ∧ j ≤ m ∧ i = .int .i64 j ∧ s = .int .i64 (sumK m j) ∧ wr.ownsRow w.heap.size 3 1 (.slice (some ⟨g, 0, none⟩) m cap) m (lI (manyL m)) ∧ Below w.heap.size w wr) (fun _ i _ => m - (intOf i).toNat)
      case atStart => exact ⟨2, by omega, by omega, rfl, by simp [sumK], hown, B0⟩
      case round =>
        clear hown B0
        obtain ⟨j, hj2, hj, rfl, rfl, hown, B0⟩ := hrel
        by_cases hjm : j < m
        · obtain ⟨_, hcells⟩ := own_ints hown
          have q0 := hcells j (by omega)
          have q1 := hcells (m + 1 - j) (by omega)
          rw [Nat.zero_add, manyL_nth _ _ (by omega)] at q0 q1
          have x0 := cellX q0
          have x1 := cellX q1
          obtain ⟨s0, s1⟩ := sumK_bd m h4 (by omega) j hj
          obtain ⟨u0, u1⟩ := manyK_bd j (by omega)
          obtain ⟨v0, v1⟩ := manyK_bd (m + 1 - j) (by omega)
          have hs := Lib.hid (sumK_succ m j hj2)
          clear q0 q1 hcells
          generalize sumK m j = s at *
          generalize manyK j = u at *
          generalize hv : manyK (m + 1 - j) = v at *
          clear hv
          obtain ⟨p0, p1⟩ := mul_bd (x := u) (y := v) (X := 16796) (Y := 16796) (by omega) (by omega) (by omega) (by omega)
          have i1 : (0 : Int) ≤ (m : Int) + 1 - (j : Int) := by omega
          have i2 : (m : Int) + 1 - (j : Int) < (m : Int) := by omega
          have i3 : ((m : Int) + 1 - (j : Int)).toNat = m + 1 - j := by omega
          have i4 : (j : Int) < (m : Int) := by omega
          go_wp2
          refine wp_region_ext (by kernel_rfl) (by kernel_rfl) ?_
          repeat (go_big_quiet_step (fail))
          refine wpQuiet_nil ?_
          rintro ⟨w1, hw1⟩
          dsimp only
          replace B0 := nextB B0 hw1
          replace hown := owns_next hown hw1
          clear x0 x1 hw1
          go_wp2
          go_roundw
          case rel => exact ⟨j + 1, by omega, by omega, by go_num, by rw [hs.out], hown, B0⟩
          case measure => simp [intOf]; omega
        · obtain rfl : j = m := by omega
          have hall := Lib.hid (sumK_all j h4 (by omega))
          rw [hall.out]
          go_wp2_with (at_builtin; refine wpList_append_own _ rfl _ _ 30 rfl w.heap.size 3 i0 (.int .i64 0) 1 8 Try.underlying30 G0.out G1.out G2.out G3.out rfl (by decide) _ _ _ rfl (hown.alloc _) ⟨_, 0, none⟩ 1 1 [.int .i64 (manyK j)] rfl rfl (cell_one_new _ _ _) (by simp [Value.oneCell']) (by unfold maxLen; omega) (by omega) (by have := B0.size; simp; omega) ?_; intro v' w2 hown2 hgrow _; obtain ⟨g2, cap2, rfl⟩ := own_pos hown2 (by omega))
          have hs := B0.size
          have B2 := (B0.alloc hs _).grown hgrow (by simp; omega) (fun q hq => (hown.lt q hq).1)
          go_roundw
          case rel => exact ⟨j + 1, g2, cap2, by omega, by omega, .inr (by omega), by go_num, rfl, by rw [manyL_succ]; simpa [lI] using hown2, B2⟩
          case measure => simp [intOf]; omega
    · have hcell := (own_ints hown).2 n (by omega)
      rw [Nat.zero_add, manyL_nth _ _ (by omega)] at hcell
      have e : manyK n = catT (n - 2) := by unfold manyK; rw [if_neg (by omega), if_neg (by omega)]
      rw [e] at hcell
      clear e
      have hn : (n : Int) < (m : Int) := by omega
      go_wp2
      go_ret2
      exact Ret.mk rfl B0
end Go.Proofs.Ytflbaadfbjpakaa
