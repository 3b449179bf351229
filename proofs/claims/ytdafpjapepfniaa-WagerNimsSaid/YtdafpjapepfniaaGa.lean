/- Layer 7, by the program: a row of Grundy's numbers. -/
import Derived.Test.YtdafpjapepfniaaWx
import Derived.Test.YtdafpjapepfniaaNa
namespace Go.Proofs.Ytdafpjapepfniaa
set_option linter.unusedSimpArgs false
set_option linter.unusedVariables false
open Go Go.RowKit

/-- The cells told by a function. -/
def cV (g : Nat → Value) (m : Nat) : Array Value := ((List.range m).map g).toArray
theorem cV_size (g : Nat → Value) (m : Nat) : (cV g m).size = m := by simp [cV]
theorem cV_get {g : Nat → Value} {m i : Nat} (h : i < m) : (cV g m)[i]? = some (g i) := by simp [cV, h]
theorem cV_ext {g g' : Nat → Value} {m : Nat} (h : ∀ i, i < m → g i = g' i) : cV g m = cV g' m := by
  unfold cV
  congr 1
  exact List.map_congr_left fun i hi => h i (List.mem_range.1 hi)
theorem cV_set {g g' : Nat → Value} {m k : Nat} (hk : k < m) (h1 : ∀ i, i < m → i ≠ k → g i = g' i) : (cV g m).setIfInBounds k (g' k) = cV g' m := by
  apply Array.ext
  · simp [cV]
  · intro i h2 h3
    rw [cV_size] at h3
    rw [Array.getElem_setIfInBounds]
    · by_cases e : k = i
      · subst e; simp [cV]
      · simp [e, cV, h1 i h3 (fun e' => e e'.symm)]
    · rw [cV_size]; exact h3
theorem infoRow : (Try.prog.info? 22).map (fun i => (i.zero, i.size, i.bytes)) = some (some (.slice none 0 0), 1, 24) := by kernel_rfl
theorem make_ints (m : Nat) (hm : m ≤ 1000000) (W : World) : (Instr.makeSlice 22 (.int .i64 (m : Int)) (.int .i64 (m : Int))).run Try.prog W = .ok (.slice (some ⟨W.heap.size, 0, none⟩) m m) (W.alloc (.cells (cV (fun _ => .int .i64 0) m) 3)) := by
  obtain ⟨i0, hi, hz0, hz1, hz2⟩ := info_parts infoInt
  rw [run_make W 22 3 i0 (.int .i64 0) Try.underlying22 hi hz0 .i64 .i64 m m (by omega) (by omega) (by rw [hz2]; omega) (by omega)]
  have e : madeCells (Value.int .i64 0).cells (m * 1) = cV (fun _ => .int .i64 0) m := by
    apply Array.ext'
    simp [madeCells, cV, Value.cells, Nat.mod_one, List.map_const']
  simp only [Int.toNat_natCast, hz1, e]
theorem make_rows (m : Nat) (hm : m ≤ 1000000) (W : World) : (Instr.makeSlice 41 (.int .i64 (m : Int)) (.int .i64 (m : Int))).run Try.prog W = .ok (.slice (some ⟨W.heap.size, 0, none⟩) m m) (W.alloc (.cells (cV (fun _ => .slice none 0 0) m) 22)) := by
  obtain ⟨i0, hi, hz0, hz1, hz2⟩ := info_parts infoRow
  rw [run_make W 41 22 i0 (.slice none 0 0) Try.underlying41 hi hz0 .i64 .i64 m m (by omega) (by omega) (by rw [hz2]; omega) (by omega)]
  have e : madeCells (Value.slice none 0 0).cells (m * 1) = cV (fun _ => .slice none 0 0) m := by
    apply Array.ext'
    simp [madeCells, cV, Value.cells, Nat.mod_one, List.map_const']
  simp only [Int.toNat_natCast, hz1, e]
theorem cF_cV (m : Nat) (f : Nat → Bool) : cF f m = cV (fun i => .bool (f i)) m := rfl

/-- The rows of the heaps below n. -/
def RowsG (w : World) (B n : Nat) (g : Nat → Nat) : Prop :=
  (∀ i, i < n → w.cell? ⟨B, i, none⟩ = some (.slice (some ⟨g i, 0, none⟩) (i + 1) (i + 1))) ∧ ∀ i t, i < n → t ≤ i → w.cell? ⟨g i, t, none⟩ = some (.int .i64 ((gr i t : Nat) : Int))
theorem RowsG.next {w w' : World} {B n : Nat} {g : Nat → Nat} (h : RowsG w B n g) (hb : Below w.heap.size w w') : RowsG w' B n g :=
  ⟨fun i hi => cellB hb (h.1 i hi), fun i t hi ht => cellB hb (h.2 i t hi ht)⟩
def gRow (n k : Nat) (j : Nat) : Value := .int .i64 ((if j < k then gr n j else 0 : Nat) : Int)
def gMet (n k : Nat) (v : Nat) : Value := .bool (decide (v ∈ mv gr n k))
theorem gr_0 (n : Nat) : gr n 0 = 0 := by have := (gr_is n 0 (Nat.zero_le _)).2; omega
def RowR (n : Nat) (w : World) (e : Ending) (w' : World) : Prop := e = .returned (.slice (some ⟨w.heap.size, 0, none⟩) (n + 1) (n + 1)) ∧ Blk w' w.heap.size 3 (cV (gRow n (n + 1)) (n + 1)) ∧ Below w.heap.size w w'
set_option maxRecDepth 100000 in
set_option maxHeartbeats 8000000 in
theorem grundyRow_any (B n c : Nat) (g : Nat → Nat) (w : World) (hn : n ≤ 200) (hG : RowsG w B n g) : Calls Try.prog 82 #[.slice (some ⟨B, 0, none⟩) n c] w (RowR n w) := by
  obtain ⟨N, hN⟩ : ∃ N, n + 1 = N := ⟨_, rfl⟩
  have eN : (n : Int) + 1 = (N : Int) := by omega
  have m1 := make_ints N (by omega)
  have m2 := make_bools N (by omega)
  unfold RowR
  rw [hN]
  have k0 := (Blk.new w 3 (cV (fun _ => .int .i64 0) N)).alloc (.cells (cF (fun _ => false) N) 4)
  have k1 := Blk.new (w.alloc (.cells (cV (fun _ => .int .i64 0) N) 3)) 4 (cF (fun _ => false) N)
  rw [World.size_alloc] at k1
  have B0 := Lib.hid (b2 w (.cells (cV (fun _ => .int .i64 0) N) 3) (.cells (cF (fun _ => false) N) 4))
  have s0 : cV (fun _ => .int .i64 0) N = cV (gRow n 1) N := cV_ext fun i hi => by
    unfold gRow
    by_cases e : i < 1
    · obtain rfl : i = 0 := by omega
      rw [if_pos e, gr_0]; rfl
    · rw [if_neg e]; rfl
  have s1 : cF (fun _ => false) N = cV (gMet n 0) N := cV_ext fun i hi => by
    unfold gMet
    rw [decide_eq_false (by simp [mv])]
  have k0' : Hid (Blk ((w.alloc (.cells (cV (fun _ => .int .i64 0) N) 3)).alloc (.cells (cF (fun _ => false) N) 4)) w.heap.size 3 (cV (gRow n 1) N)) := Lib.hid (by rw [← s0]; exact k0)
  have k1' : Hid (Blk ((w.alloc (.cells (cV (fun _ => .int .i64 0) N) 3)).alloc (.cells (cF (fun _ => false) N) 4)) (w.heap.size + 1) 4 (cV (gMet n 0) N)) := Lib.hid (by rw [← s1]; exact k1)
  have g0 := Lib.hid (gr_0 n)
  have hmet : Hid (∀ t, 1 ≤ t → t ≤ n → (∀ u, u ≠ gr (n - t) (min (2 * t) (n - t)) → gMet n (t - 1) u = gMet n t u) ∧ gMet n t (gr (n - t) (min (2 * t) (n - t))) = .bool true) := Lib.hid fun t h1 h2 => by
    obtain ⟨p, rfl⟩ : ∃ p, t = p + 1 := ⟨t - 1, by omega⟩
    unfold gMet
    rw [mv_succ, Nat.add_sub_cancel]
    refine ⟨fun u hu => ?_, by rw [decide_eq_true (by simp)]⟩
    congr 1
    rw [decide_eq_decide]
    simp [hu]
  have hrow : Hid (∀ t, t ≤ n → ∀ i, i < N → i ≠ t → gRow n t i = gRow n (t + 1) i) := Lib.hid fun t _ i _ hi => by
    unfold gRow
    by_cases h : i < t
    · rw [if_pos h, if_pos (by omega)]
    · rw [if_neg h, if_neg (by omega)]
  have hrow2 : Hid (∀ t, gRow n (t + 1) t = .int .i64 ((gr n t : Nat) : Int)) := Lib.hid fun t => by unfold gRow; rw [if_pos (by omega)]
  have hmex : Hid (∀ t, t ≤ n → IsMex (mv gr n t) (gr n t) ∧ gr n t ≤ t) := Lib.hid fun t ht => gr_is n t ht
  have hmono : Hid (∀ t, 1 ≤ t → t ≤ n → gr n (t - 1) ≤ gr n t) := Lib.hid fun t h1 ht => gr_mono (by omega) ht
  have hle : Hid (∀ r m, m ≤ r → gr r m ≤ m) := Lib.hid fun r m h => (gr_is r m h).2
  have hmet0 : Hid (∀ t u, gMet n t u = .bool (decide (u ∈ mv gr n t))) := Lib.hid fun _ _ => rfl
  clear k0 k1 s0 s1
  replace hG := Lib.hid hG
  go_enter Try.func82, Try.ntmps82
  go_wp2
  go_loopw [6, 7, 8] (fun x t _ wr => ∃ k : Nat, 1 ≤ k ∧ k ≤ N ∧ x = .int .i64 ((gr n (k - 1) : Nat) : Int) ∧ t = .int .i64 k ∧ Blk wr w.heap.size 3 (cV (gRow n k) N) ∧ Blk wr (w.heap.size + 1) 4 (cV (gMet n (k - 1)) N) ∧ Below w.heap.size w wr) (fun _ t _ _ => N - (intOf t).toNat)
  case atStart => exact ⟨1, by omega, by omega, by rw [show 1 - 1 = 0 from rfl, g0.out]; rfl, rfl, k0'.out, k1'.out, B0.out⟩
  case round =>
    clear k0' k1' B0
    obtain ⟨t, ht1, htN, rfl, rfl, k0, k1, B1⟩ := hrel
    by_cases hlt : t ≤ n
    · have hlt' : (t : Int) ≤ (n : Int) := by omega
      obtain ⟨R, hR⟩ : ∃ R, n - t = R := ⟨_, rfl⟩
      have eR : (n : Int) - (t : Int) = (R : Int) := by omega
      obtain ⟨m, hm⟩ : ∃ m, min (2 * t) R = m := ⟨_, rfl⟩
      have em : min (2 * (t : Int)) (R : Int) = (m : Int) := by omega
      have hR0 := cellB B1 (hG.out.1 R (by omega))
      have hv0 := cellB B1 (hG.out.2 R m (by omega) (by omega))
      have hv := hle.out R m (by omega)
      obtain ⟨hs1, hs2⟩ := hmet.out t ht1 hlt
      rw [hR, hm] at hs1 hs2
      have hmo := hmono.out t ht1 hlt
      obtain ⟨⟨hx1, hx2⟩, hx3⟩ := hmex.out t hlt
      have hRn : R < n := by omega
      have hmR : m ≤ R := by omega
      obtain ⟨L, hL⟩ : ∃ L, R + 1 = L := ⟨_, rfl⟩
      rw [hL] at hR0
      generalize gr R m = v at *
      have hvN : v < N := by omega
      have x0 := k1.c v (cV_get hvN)
      have xf := k1.fr v
      have k1' := k1.setA (i := v) (.bool true)
      rw [← hs2, cV_set hvN (fun i _ hi => hs1 i hi)] at k1'
      rw [hs2] at k1'
      have k1' := Lib.hid k1'
      have k0' := Lib.hid (k0.other (B' := w.heap.size + 1) (i := v) (by omega) (.bool true))
      have B2 := Lib.hid (B1.setCell (p := ⟨w.heap.size + 1, v, none⟩) (by simp) (.bool true))
      clear k0 k1 B1 hs1 hs2 hR hm
      replace hx1 := Lib.hid hx1
      replace hx2 := Lib.hid hx2
      generalize gr n (t - 1) = y at *
      go_wp2
      go_loop [6] (fun x => ∃ k : Nat, y ≤ k ∧ k ≤ gr n t ∧ x = .int .i64 k) (fun x => gr n t - (intOf x).toNat)
      case atStart => exact ⟨y, Nat.le_refl _, hmo, rfl⟩
      case round =>
        obtain ⟨x, hxy, hxg, rfl⟩ := hrel
        have y0 := k1'.out.c x (cV_get (by omega))
        rw [hmet0.out] at y0
        by_cases hend : x < gr n t
        · rw [decide_eq_true (hx2.out x hend)] at y0
          go_wp2
          go_round
          case rel => exact ⟨x + 1, by omega, by omega, by go_num⟩
          case measure => simp [intOf]; omega
        · obtain rfl : x = gr n t := by omega
          rw [decide_eq_false hx1.out] at y0
          have z0 := k0'.out.c t (cV_get (by omega))
          have zf := k0'.out.fr t
          have k0'' := k0'.out.setA (i := t) (.int .i64 ((gr n t : Nat) : Int))
          rw [← hrow2.out t, cV_set (by omega) (hrow.out t hlt), hrow2.out t] at k0''
          have k0'' := Lib.hid k0''
          have k1'' := Lib.hid (k1'.out.other (B' := w.heap.size) (i := t) (by omega) (.int .i64 ((gr n t : Nat) : Int)))
          have B3 := Lib.hid (B2.out.setCell (p := ⟨w.heap.size, t, none⟩) (by simp) (.int .i64 ((gr n t : Nat) : Int)))
          clear k0' k1' B2
          go_wp2
          go_roundw
          case rel => exact ⟨t + 1, by omega, by omega, by rw [Nat.add_sub_cancel], by go_num, k0''.out, by rw [Nat.add_sub_cancel]; exact k1''.out, B3.out⟩
          case measure => simp [intOf]; omega
    · obtain rfl : t = N := by omega
      have hlt' : (n : Int) < (t : Int) := by omega
      replace k0 := Lib.hid k0
      replace B1 := Lib.hid B1
      clear k1
      go_wp2
      go_ret
      exact ⟨rfl, k0.out, B1.out⟩
end Go.Proofs.Ytdafpjapepfniaa
