/- Layer 3, by the program: the sums of all sets. -/
import Derived.Test.YtnnndooagpkgmaaVb
import Derived.OwnWalk
namespace Go.Proofs.Ytnnndooagpkgmaa
open Go Go.RowKit

def zeros (m : Nat) : Array Value := (List.replicate m (Value.int .i64 0)).toArray
theorem make_one (m : Nat) (h1 : 1 ≤ m) (hm : m ≤ 1000000) (W : World) : (Instr.makeSlice 22 (.int .i64 1) (.int .i64 (m : Int))).run Try.prog W = .ok (.slice (some ⟨W.heap.size, 0, none⟩) 1 m) (W.alloc (.cells (zeros m) 3)) := by
  obtain ⟨i0, hi, hz0, hz1, hz2⟩ := info_parts infoInt
  rw [run_make W 22 3 i0 (.int .i64 0) Try.underlying22 hi hz0 .i64 .i64 1 m (by omega) (by omega) (by rw [hz2]; omega) (by omega)]
  have e : madeCells (Value.int .i64 0).cells (m * 1) = zeros m := by
    apply Array.ext'
    simp [madeCells, zeros, Value.cells, Nat.mod_one, List.map_const']
  simp only [Int.toNat_natCast, hz1, e]
  rfl
theorem own_one (w : World) (m : Nat) (h1 : 1 ≤ m) (hm : m ≤ 1000000) : (w.alloc (.cells (zeros m) 3)).ownsRow w.heap.size 3 1 (.slice (some ⟨w.heap.size, 0, none⟩) 1 m) 1 (lI [0]) := by
  refine ⟨by simp [lI], .inr ⟨w.heap.size, m, zeros m, rfl, Nat.le_refl _, heap_alloc_new w _, h1, by unfold maxLen; omega, by simp [zeros], ?_⟩⟩
  obtain ⟨k, rfl⟩ : ∃ k, m = k + 1 := ⟨m - 1, by omega⟩
  simp [zeros, lI, List.replicate_succ]
theorem wrap_shl {k : Nat} (h : k < 40) : wrap64 ((2 : Int) ^ k) = ((pw k : Nat) : Int) := by
  have := pw_le h
  rw [pw_int]; exact IntWalk.wrap64_in _ ⟨by omega, by omega⟩
/-- The slice of all sums. -/
def SumsR (ws : List Int) (w : World) (e : Ending) (w' : World) : Prop :=
  ∃ g, e = .returned (.slice (some ⟨g, 0, none⟩) (pw ws.length) (pw ws.length)) ∧ w.heap.size ≤ g ∧ (∀ s, s < pw ws.length → w'.cell? ⟨g, s, none⟩ = some (.int .i64 (wsum ws s ws.length))) ∧ Below w.heap.size w w'
def Wts (ws : List Int) : Prop := ∀ i, i < ws.length → 0 ≤ nth ws i ∧ nth ws i ≤ 1000
theorem wsum_bd {ws : List Int} (h : Wts ws) (s : Nat) : ∀ k, k ≤ ws.length → 0 ≤ wsum ws s k ∧ wsum ws s k ≤ 1000 * k := by
  intro k
  induction k with
  | zero => intro _; simp [wsum]
  | succ k ih =>
    intro hk
    have h1 := ih (by omega)
    have h2 := h k (by omega)
    rw [wsum]
    have h3 := bt_lt s k
    have h4 : bt s k = 0 ∨ bt s k = 1 := by omega
    rcases h4 with h4 | h4 <;> rw [h4] <;> omega
def SumIn (g N P : Nat) (S : List Int) (y : Int) (w : World) (v i : Value) (wr : World) : Prop :=
  ∃ j m : Nat, j ≤ P ∧ m ≤ P + j ∧ P + j ≤ m ∧ i = .int .i64 j ∧ v = .slice (some ⟨g, 0, none⟩) m N ∧ wr.ownsRow w.heap.size 3 1 (.slice (some ⟨g, 0, none⟩) m N) m (lI (S ++ (S.take j).map (· + y))) ∧ Below w.heap.size w wr
set_option maxRecDepth 100000 in
set_option maxHeartbeats 4000000 in
theorem sums_any (a : Option Addr) (n c : Nat) (ws : List Int) (w : World) (h : Ints w a ws) (hn : ws.length = n) (hn8 : n ≤ 8) (hw : Wts ws) :
    Calls Try.prog 67 #[.slice a n c] w (SumsR ws w) := by
  obtain ⟨i0, hi, hz0, hz1, hz2⟩ := info_parts infoInt
  have G0 := Lib.hid hi
  have G2 := Lib.hid hz1
  clear hi hz0 hz1 hz2
  have sh := wrap_shl (k := n) (by omega)
  have hp8 : pw n ≤ 256 := by have := pw_mono hn8; simpa [pw] using this
  have hp1 := pw_pos n
  have hmk := make_one (pw n) (by omega) (by omega)
  have own0 := own_one w (pw n) (by omega) (by omega)
  have hbd := Lib.hid (fun s k (hk : k ≤ n) => wsum_bd hw s k (by omega))
  have hnx := Lib.hid (fun k (hk : k < n) => (show 0 ≤ nth ws k ∧ nth ws k ≤ 1000 from hw k (by omega)))
  have hsm := Lib.hid (fun k (hk : k < n) => sumsL_take ws k (by omega))
  have hln := Lib.hid (fun k (hk : k ≤ n) => sumsL_len ws k (by omega))
  have hnt := Lib.hid (fun k (hk : k ≤ n) => sumsL_nth ws k (by omega))
  have hfull : Hid (ws.take n = ws) := Lib.hid (List.take_of_length_le (by omega))
  have h' : Hid (0 < n → ∃ b off, a = some ⟨b, off, none⟩ ∧ b < w.heap.size ∧ ∀ i, i < n → w.cell? ⟨b, off + i, none⟩ = some (.int .i64 (nth ws i))) := Lib.hid (fun h0 => by
    obtain ⟨b, off, e, hc⟩ := ints_at h (by omega)
    exact ⟨b, off, e, block_lt_of_cell (hc 0 (by omega)), fun i hi => hc i (by omega)⟩)
  clear h hw
  replace hn := Lib.hid hn
  have B0 := b1 w (.cells (zeros (pw n)) 3)
  generalize hN : pw n = N at *
  replace hN := Lib.hid hN
  go_enter Try.func67, Try.ntmps67
  go_wp2
  generalize w.alloc (.cells (zeros N) 3) = w1 at *
  clear hmk
  go_loopw [3, 14] (fun v i wr => ∃ k : Nat, k ≤ n ∧ i = .int .i64 k ∧ v = .slice (some ⟨w.heap.size, 0, none⟩) (pw k) N ∧ wr.ownsRow w.heap.size 3 1 (.slice (some ⟨w.heap.size, 0, none⟩) (pw k) N) (pw k) (lI (sumsL (ws.take k))) ∧ Below w.heap.size w wr) (fun _ i _ => n - (intOf i).toNat)
  case atStart => exact ⟨0, by omega, rfl, rfl, own0, B0⟩
  case round =>
    clear own0 B0
    obtain ⟨k, hk, rfl, rfl, hown, B0⟩ := hrel
    by_cases hlt : k < n
    · obtain ⟨b, off, rfl, hb, hc⟩ := h'.out (by omega)
      have x0 := cellB B0 (hc k hlt)
      clear hc
      have hi1 : (k : Int) < (n : Int) := by omega
      obtain ⟨v1, v2⟩ := hnx.out k hlt
      have hpk : pw k + pw k ≤ N := by have := pw_mono (show k + 1 ≤ n by omega); rw [pw_succ, hN.out] at this; omega
      have hpk1 := pw_succ k
      have hpk2 := Lib.hid hpk1
      clear hpk1
      have hS := Lib.hid (hsm.out k hlt)
      have hL := Lib.hid (hln.out k hk)
      have hT := Lib.hid (hnt.out k hk)
      have hB := Lib.hid (fun s => hbd.out s k hk)
      generalize sumsL (ws.take k) = S at *
      obtain ⟨y, hy⟩ : ∃ y, Hid (nth ws k = y) := ⟨_, Lib.hid rfl⟩
      rw [hy.out] at v1 v2 x0
      go_wp2
      generalize wr = w2 at *
      go_loopw [3, 7, 20] (fun v _ i wr => SumIn w.heap.size N (pw k) S y w v i wr) (fun _ _ i _ => pw k - (intOf i).toNat)
      case atStart => exact ⟨0, pw k, by omega, by omega, by omega, rfl, rfl, by simpa using hown, B0⟩
      case round =>
        clear hown B0 x0
        obtain ⟨j, m, hj, hm, hm', rfl, rfl, hown, B0⟩ := hrel
        by_cases hjl : j < pw k
        · have hj1 : (j : Int) < (pw k : Int) := by omega
          have x1 : wr.cell? ⟨w.heap.size, j, none⟩ = some (.int .i64 (nth S j)) := by
            rw [hown.cellAt j (by omega), lI_get (by rw [List.length_append, hL.out]; omega), nth_append_l (by rw [hL.out]; exact hjl)]
          have hjv := hB.out j
          have hjt := hT.out j hjl
          rw [← hjt] at hjv
          obtain ⟨z1, z2⟩ := hjv
          have hst : Hid (lI (S ++ (S.take (j + 1)).map (· + y)) = lI (S ++ (S.take j).map (· + y)) ++ [.int .i64 (nth S j + y)]) := Lib.hid (by
            rw [take_snocI S j (by rw [hL.out]; exact hjl), List.map_append, ← List.append_assoc, List.map_singleton, lI_snoc])
          clear hjt
          obtain ⟨z, hz⟩ : ∃ z, Hid (nth S j = z) := ⟨_, Lib.hid rfl⟩
          rw [hz.out] at z1 z2 x1
          have hz3 : z ≤ 8000 := by omega
          clear z2
          go_wp2_with (at_builtin; refine wpList_append_fits _ rfl _ _ 22 rfl w.heap.size 3 i0 1 Try.underlying22 G0.out G2.out w.heap.size m N _ rfl (hown.alloc _) ⟨_, 0, none⟩ 1 1 [.int .i64 (z + y)] rfl rfl (cell_one_new _ _ _) (by simp [Value.oneCell']) (by omega) ?_; intro w3 hown2 hgrow)
          have hs := B0.size
          have B2 := (B0.alloc hs _).grown hgrow (by simp; omega) (fun q hq => by cases hq; exact Nat.le_refl _)
          go_roundw
          case rel =>
            exact ⟨_, _, _, ⟨j + 1, m + 1, by omega, by omega, by omega, by go_num, rfl, by rw [hst.out, hz.out]; exact hown2, B2⟩, rfl, rfl, rfl⟩
          case measure => simp [intOf]; omega
        · obtain rfl : j = pw k := by omega
          have hm2 : m = pw (k + 1) := by rw [hpk2.out]; omega
          have hm3 := Lib.hid hm2
          clear hm hm' hm2
          have e1 : S.take (pw k) = S := List.take_of_length_le (by rw [hL.out]; omega)
          rw [e1, ← hy.out, ← hS.out] at hown
          go_wp2
          go_roundw
          case rel => exact ⟨k + 1, by omega, by go_num, by rw [← hm3.out], by rw [← hm3.out]; exact hown, B0⟩
          case measure => simp [intOf]; omega
    · obtain rfl : k = n := by omega
      go_wp2
      go_ret
      rw [hN.out, hfull.out] at hown
      refine ⟨w.heap.size, (show Ending.returned (.slice (some ⟨w.heap.size, 0, none⟩) (pw k) N) = _ by rw [hn.out, hN.out]), Nat.le_refl _, fun s hs => ?_, B0⟩
      rw [hn.out, hN.out] at hs
      have h1 := hown.cellAt s (by omega)
      have hl := hln.out k (Nat.le_refl _)
      rw [hfull.out, hN.out] at hl
      have h2 := hnt.out k (Nat.le_refl _) s (by rw [hN.out]; exact hs)
      rw [hfull.out] at h2
      rw [h1, lI_get (by omega), h2, hn.out]
end Go.Proofs.Ytnnndooagpkgmaa
