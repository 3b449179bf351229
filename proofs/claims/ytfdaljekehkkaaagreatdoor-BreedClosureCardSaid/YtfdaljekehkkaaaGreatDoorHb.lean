/- Layer 5, by the program: Count. -/
import Derived.Test.YtfdaljekehkkaaaGreatDoorDa
namespace Go.Proofs.YtfdaljekehkkaaaGreatDoor
open Go Go.RowKit

/-- The trees of b + 1 beasts with f families. -/
def trC : Nat → Nat → Nat
  | 0, f => if f = 0 then 1 else 0
  | b + 1, f => if f = 0 then 0 else if f ≤ b + 1 then f * trC b f + (b + 1 + f - 1) * trC b (f - 1) else trC b f
theorem trC_le : ∀ b, b < 8 → ∀ f, f < 9 → trC b f ≤ 1000000 := by decide +kernel
/-- The numbers of a table, summed up. -/
def sumF (t : Nat → Nat) : Nat → Nat
  | 0 => 0
  | k + 1 => sumF t k + t k
theorem sum_le : ∀ b, b < 8 → ∀ k, k ≤ 8 → sumF (trC b) k ≤ 10000000 := by decide +kernel
/-- A table of n numbers, as cells. -/
def cF (n : Nat) (t : Nat → Nat) : Array Value := (Array.range n).map fun i => .int .i64 ((t i : Nat) : Int)
theorem cF_get {n : Nat} {t : Nat → Nat} {i : Nat} (h : i < n) : (cF n t)[i]? = some (.int .i64 ((t i : Nat) : Int)) := by simp [cF, h]
theorem cF_set {n : Nat} {t : Nat → Nat} {i x : Nat} (h : i < n) : (cF n t).setIfInBounds i (.int .i64 (x : Int)) = cF n (fun j => if j = i then x else t j) := by
  apply Array.ext
  · simp [cF]
  · intro j h1 h2
    have hj : j < n := by simpa [cF] using h1
    rw [Array.getElem_setIfInBounds (by simpa [cF] using hj)]
    by_cases e : i = j
    · subst e; simp [cF]
    · rw [if_neg e]
      simp only [cF, Array.getElem_map, Array.getElem_range, if_neg (fun k : j = i => e k.symm)]
theorem cF_congr {n : Nat} {t u : Nat → Nat} (h : ∀ i, i < n → t i = u i) : cF n t = cF n u := by
  apply Array.ext
  · simp [cF]
  · intro j h1 h2
    have hj : j < n := by simpa [cF] using h1
    simp only [cF, Array.getElem_map, Array.getElem_range, h j hj]
theorem make_tab (n : Nat) (hn : n ≤ 1000000) (W : World) : (Instr.makeSlice 66 (.int .i64 (n : Int)) (.int .i64 (n : Int))).run Tryz.prog W = .ok (.slice (some ⟨W.heap.size, 0, none⟩) n n) (W.alloc (.cells (cF n fun _ => 0) 3)) := by
  obtain ⟨i0, hi, hz0, hz1, hz2⟩ := info_parts infoInt
  rw [run_make W 66 3 i0 (.int .i64 0) Tryz.underlying66 hi hz0 .i64 .i64 n n (by omega) (by omega) (by rw [hz2]; omega) (by omega)]
  have e : madeCells (Value.int .i64 0).cells (n * 1) = cF n fun _ => 0 := by
    apply Array.ext'
    simp [madeCells, cF, Value.cells, Nat.mod_one, List.map_const']
  simp only [Int.toNat_natCast, hz1, e]
/-- In the midst of a round: what lies above f is new. -/
def midT (b f : Nat) (i : Nat) : Nat := if f < i then trC b i else trC (b - 1) i
theorem mid_start (b n : Nat) (hb : 1 ≤ b) : ∀ i, i < n → midT b b i = trC (b - 1) i := by
  intro i _
  unfold midT
  split
  · obtain ⟨c, rfl⟩ : ∃ c, b = c + 1 := ⟨b - 1, by omega⟩
    rw [trC, if_neg (by omega), if_neg (by omega)]
    rfl
  · rfl
theorem mid_step {b f : Nat} (hb : 1 ≤ b) (hf : 1 ≤ f) (hfb : f ≤ b) (n : Nat) : ∀ i, i < n → (if i = f then f * midT b f f + (b + f - 1) * midT b f (f - 1) else midT b f i) = midT b (f - 1) i := by
  intro i _
  obtain ⟨c, rfl⟩ : ∃ c, b = c + 1 := ⟨b - 1, by omega⟩
  unfold midT
  by_cases e : i = f
  · subst e
    rw [if_pos rfl, if_neg (by omega), if_neg (by omega), if_pos (by omega), trC, if_neg (by omega), if_pos (by omega)]
    rfl
  · rw [if_neg e]
    by_cases h : f < i
    · rw [if_pos h, if_pos (by omega)]
    · rw [if_neg h, if_neg (by omega)]
theorem mid_end {b : Nat} (hb : 1 ≤ b) (n : Nat) : ∀ i, i < n → (if i = 0 then 0 else midT b 0 i) = trC b i := by
  intro i _
  obtain ⟨c, rfl⟩ : ∃ c, b = c + 1 := ⟨b - 1, by omega⟩
  by_cases e : i = 0
  · subst e; rw [if_pos rfl, trC, if_pos rfl]
  · rw [if_neg e]
    unfold midT
    rw [if_pos (by omega)]
theorem mid_le {b f i : Nat} (hb : b < 8) (hi : i < 9) : midT b f i ≤ 1000000 := by
  unfold midT
  split
  · exact trC_le b hb i hi
  · exact trC_le _ (by omega) i hi
/-- What Count returns. -/
def cntE (n : Int) : Int × Int := if numB n then ((sumF (trC (n.toNat - 1)) n.toNat : Nat), 0) else (0, 2)
set_option maxRecDepth 100000 in
set_option maxHeartbeats 2000000 in
theorem Count_any (n : Int) (w : World) : Calls Tryz.prog 16 #[.int .i64 n] w (Ret (.tuple #[.int .i64 (cntE n).1, .int .i64 (cntE n).2]) w) := by
  have K := Lib.hid (isNumber_any n w)
  unfold cntE
  cases hn : numB n
  · rw [hn] at K
    simp only [Bool.false_eq_true, if_false]
    go_enter Tryz.func16, Tryz.ntmps16
    go_wp2_with (go_at_call 32; refine K.out.mono ?_; rintro e w1 ⟨rfl, rfl⟩)
    go_ret2
    exact Ret.mk rfl (Below.refl _ _)
  · rw [hn] at K
    unfold numB at hn
    simp only [Bool.and_eq_true, decide_eq_true_eq] at hn
    obtain ⟨m, rfl⟩ : ∃ m : Nat, n = (m : Int) := ⟨n.toNat, by omega⟩
    have h1 : 1 ≤ m := by omega
    have h8 : m ≤ 8 := by omega
    clear hn
    simp only [if_true, Int.toNat_natCast]
    obtain ⟨r, hr⟩ : ∃ r, Hid (sumF (trC (m - 1)) m = r) := ⟨_, Lib.hid rfl⟩
    rw [hr.out]
    have hmk := make_tab m (by omega)
    have hB0 := Blk.new w 3 (cF m fun _ => 0)
    have x0 := hB0.c 0 (cF_get (by omega))
    have f0 := hB0.fr 0
    have hB1 := Lib.hid (Blk.new w 3 ((cF m fun _ => 0).setIfInBounds 0 (.int .i64 1)))
    have bA := Lib.hid (b1 w (.cells ((cF m fun _ => 0).setIfInBounds 0 (.int .i64 1)) 3))
    replace hB0 := Lib.hid hB0
    have i0 : (0 : Int) < (m : Int) := by omega
    go_enter Tryz.func16, Tryz.ntmps16
    go_wp2_with (go_at_call 32; refine K.out.mono ?_; rintro e w1 ⟨rfl, rfl⟩)
    clear x0 f0 hmk
    go_loopw [5] (fun i wr => ∃ b : Nat, 1 ≤ b ∧ b ≤ m ∧ i = .int .i64 b ∧ Blk wr w.heap.size 3 (cF m (trC (b - 1))) ∧ Below w.heap.size w wr) (fun i _ => m - (intOf i).toNat)
    case atStart => exact ⟨1, by omega, h1, rfl, by
      have := hB1.out
      have e : (cF m fun _ => 0).setIfInBounds 0 (Value.int .i64 1) = cF m (trC (1 - 1)) := (cF_set (x := 1) (by omega)).trans (cF_congr fun i _ => rfl)
      rw [e] at this
      rw [e]
      exact this, bA.out⟩
    case round =>
      obtain ⟨b, hb1, hbm, rfl, hB, B0⟩ := hrel
      by_cases hlt : b < m
      · replace hB := Lib.hid hB
        go_wp2
        go_loopw [6] (fun i wr => ∃ f : Nat, f ≤ b ∧ i = .int .i64 f ∧ Blk wr w.heap.size 3 (cF m (midT b f)) ∧ Below w.heap.size w wr) (fun i _ => (intOf i).toNat)
        case atStart => exact ⟨b, Nat.le_refl _, rfl, by rw [cF_congr (mid_start b m hb1)]; exact hB.out, B0⟩
        case round =>
          clear hB B0
          obtain ⟨f, hf, rfl, hB, B0⟩ := hrel
          by_cases h0 : 0 < f
          · have x0 := hB.c f (cF_get (by omega))
            have x1 := hB.c (f - 1) (cF_get (by omega))
            have hS := Lib.hid (hB.setA (i := f) (.int .i64 ((f * midT b f f + (b + f - 1) * midT b f (f - 1) : Nat) : Int)))
            have hM := Lib.hid (mid_step hb1 h0 hf m)
            have l1 := mid_le (b := b) (f := f) (i := f) (by omega) (by omega)
            have l2 := mid_le (b := b) (f := f) (i := f - 1) (by omega) (by omega)
            obtain ⟨u, hu⟩ : ∃ u, Hid (midT b f f = u) := ⟨_, Lib.hid rfl⟩
            obtain ⟨v, hv⟩ : ∃ v, Hid (midT b f (f - 1) = v) := ⟨_, Lib.hid rfl⟩
            rw [hu.out] at x0 l1
            rw [hv.out] at x1 l2
            rw [hu.out, hv.out] at hS hM
            have m1 : f * u ≤ 8 * 1000000 := Nat.mul_le_mul (by omega) l1
            have m2 : (b + f - 1) * v ≤ 16 * 1000000 := Nat.mul_le_mul (by omega) l2
            have e1 : IntKind.i64.wrap ((f : Int) * (u : Int)) = ((f * u : Nat) : Int) := by rw [← Int.natCast_mul, IntWalk.i64_in _ (by omega)]
            have e2 : (((b : Int) + (f : Int)) - 1) = ((b + f - 1 : Nat) : Int) := by omega
            have e3 : IntKind.i64.wrap (((b + f - 1 : Nat) : Int) * (v : Int)) = (((b + f - 1) * v : Nat) : Int) := by rw [← Int.natCast_mul, IntWalk.i64_in _ (by omega)]
            have e4 : IntKind.i64.wrap (((f * u : Nat) : Int) + (((b + f - 1) * v : Nat) : Int)) = ((f * u + (b + f - 1) * v : Nat) : Int) := by rw [← Int.natCast_add, IntWalk.i64_in _ (by omega)]
            have i1 : (0 : Int) ≤ (f : Int) - 1 := by omega
            have i2 : ((f : Int) - 1).toNat = f - 1 := by omega
            have i3 : (0 : Int) < (f : Int) := by omega
            have i4 : (f : Int) < (m : Int) := by omega
            have i5 : (1 : Int) ≤ (f : Int) := by omega
            have i6 : (f : Int) - 1 < (m : Int) := by omega
            have i7 : IntKind.i64.wrap ((f : Int) - 1) = (f : Int) - 1 := IntWalk.i64_in _ (by omega)
            have i8 : IntKind.i64.wrap ((b : Int) + (f : Int)) = (b : Int) + (f : Int) := IntWalk.i64_in _ (by omega)
            have i9 : IntKind.i64.wrap (((b : Int) + (f : Int)) - 1) = ((b + f - 1 : Nat) : Int) := by rw [e2]; exact IntWalk.i64_in _ (by omega)
            have y0 := cellX x0
            have y1 := cellX x1
            clear x0 x1 l1 l2 m1 m2
            generalize f * u = p1 at *
            generalize (b + f - 1) * v = p2 at *
            generalize p1 + p2 = p3 at *
            replace hB := Lib.hid hB
            replace e2 := Lib.hid e2
            go_wp2
            refine wp_region_ext_tail 20 (by kernel_rfl) (by kernel_rfl) ?_
            simp only [List.take_succ_cons, List.take_zero, List.drop_succ_cons, List.drop_zero]
            repeat (go_big_quiet_step (fail))
            refine wpQuiet_nil ?_
            rintro ⟨w3, hw3⟩
            dsimp only
            clear y0 y1 e1 e3 e4 i7 i8 i9
            have hB3 := hB.out.ext hw3
            have z0 := hB3.c f (cF_get (by omega))
            have z1 := hB3.fr f
            have hS3 := Lib.hid (hB3.setA (i := f) (.int .i64 (p3 : Int)))
            have bw := Lib.hid ((nextB B0 hw3).setCell (p := ⟨w.heap.size, f, none⟩) (Nat.le_refl _) (.int .i64 (p3 : Int)))
            replace hB3 := Lib.hid hB3
            go_wp2
            go_roundw
            case rel => exact ⟨f - 1, by omega, by simp only [Value.int.injEq, true_and]; omega, by
              have := hS3.out
              rw [cF_set (by omega)] at this
              rw [cF_congr hM.out] at this
              exact this, bw.out⟩
            case measure => simp [intOf]; omega
          · obtain rfl : f = 0 := by omega
            rw [show ((0 : Nat) : Int) = 0 from rfl]
            have x0 := hB.c 0 (cF_get (by omega))
            have x1 := hB.fr 0
            have hS3 := Lib.hid (hB.setA (i := 0) (.int .i64 0))
            have bw := Lib.hid (B0.setCell (p := ⟨w.heap.size, 0, none⟩) (Nat.le_refl _) (.int .i64 0))
            replace hB := Lib.hid hB
            go_wp2
            go_roundw
            case rel => exact ⟨b + 1, by omega, by omega, by go_num, by
              have := hS3.out
              rw [show Value.int .i64 0 = .int .i64 ((0 : Nat) : Int) from rfl, cF_set (by omega), cF_congr (mid_end hb1 m)] at this
              exact this, bw.out⟩
            case measure => simp [intOf]; omega
      · obtain rfl : b = m := by omega
        replace hB := Lib.hid hB
        go_wp2
        go_loop [7, 51] (fun s i => ∃ k : Nat, k ≤ b ∧ i = .int .i64 k ∧ s = .int .i64 ((sumF (trC (b - 1)) k : Nat) : Int)) (fun _ i => b - (intOf i).toNat)
        case atStart => exact ⟨0, Nat.zero_le _, rfl, rfl⟩
        case round =>
          obtain ⟨k, hk, rfl, rfl⟩ := hrel
          have s1 := sum_le (b - 1) (by omega) k (by omega)
          by_cases hlt2 : k < b
          · have x0 := hB.out.c k (cF_get hlt2)
            have l1 := trC_le (b - 1) (by omega) k (by omega)
            have hE := Lib.hid (show sumF (trC (b - 1)) (k + 1) = sumF (trC (b - 1)) k + trC (b - 1) k from rfl)
            have hki : (k : Int) < (b : Int) := by omega
            generalize sumF (trC (b - 1)) k = s0 at *
            generalize trC (b - 1) k = t0 at *
            go_wp2
            go_round
            case rel => exact ⟨k + 1, by omega, by go_num, by rw [hE.out]; go_num⟩
            case measure => simp [intOf]; omega
          · obtain rfl : k = b := by omega
            go_wp2
            go_ret2
            exact Ret.mk (by rw [hr.out]; rfl) B0
end Go.Proofs.YtfdaljekehkkaaaGreatDoor
