/- Layer 7, the laws: WagerZeckendorf. -/
import Derived.Test.YtdafpjapepfniaaWx
namespace Go.Proofs.Ytdafpjapepfniaa
set_option linter.unusedSimpArgs false
set_option linter.unusedVariables false
open Go Go.RowKit

theorem split_at : ∀ {l : List Nat} {i : Nat}, i + 1 < l.length → l = l.take i ++ [l.getD i 0, l.getD (i + 1) 0] ++ l.drop (i + 2)
  | a :: b :: l, 0, _ => by simp
  | a :: l, i + 1, h => by
    have := split_at (l := l) (i := i) (by simpa using h)
    rw [List.take_succ_cons, List.getD_cons_succ, List.getD_cons_succ, List.drop_succ_cons, List.cons_append, List.cons_append, ← this]
theorem zx_gap (m i : Nat) (h : i + 1 < (zx m).length) : (zx m).getD (i + 1) 0 + 2 ≤ (zx m).getD i 0 := by
  have hz := zx_isZ m
  rw [split_at h] at hz
  exact IsZ.gap (IsZ.init hz)
theorem sm_take : ∀ {l : List Nat} {k : Nat}, k < l.length → sm (l.take (k + 1)) = sm (l.take k) + fb (l.getD k 0)
  | a :: l, 0, _ => by simp [sm]
  | a :: l, k + 1, h => by
    have := sm_take (l := l) (k := k) (by simpa using h)
    rw [List.take_succ_cons, sm_cons, this, List.take_succ_cons, sm_cons, List.getD_cons_succ]
    omega
theorem sm_take_le : ∀ (l : List Nat) (k : Nat), sm (l.take k) ≤ sm l
  | [], k => by simp
  | a :: l, 0 => by simp [sm]
  | a :: l, k + 1 => by
    have := sm_take_le l k
    rw [List.take_succ_cons, sm_cons, sm_cons]
    omega
theorem nth_fI {l : List Nat} {k : Nat} (h : k < l.length) : nth (fI l) k = ((fb (l.getD k 0) : Nat) : Int) := by simp [nth, fI, h]
/-- The number at place k. -/
def zf (m k : Nat) : Nat := (zx m).getD k 0
def zs (m k : Nat) : Nat := sm ((zx m).take k)
theorem zf_le (m k : Nat) (h : k < (zx m).length) : fb (zf m k) ≤ m := by
  have h2 := mem_le_sm (List.getElem_mem h)
  rw [zx_sum] at h2
  have : zf m k = (zx m)[k] := by simp [zf, h]
  rw [this]
  exact h2
theorem zs_le (m k : Nat) : zs m k ≤ m := by
  have := sm_take_le (zx m) k
  rwa [zx_sum] at this
theorem zs_all (m : Nat) : zs m (zx m).length = m := by
  unfold zs
  rw [List.take_length, zx_sum]
theorem parts_zf (m : Nat) (w : World) (hm : m ≤ 1099511627776) : Calls Try.prog 16 #[.int .i64 (m : Int)] w (fun e w' => ∃ b off c, ∃ a : Option Addr, e = .returned (.tuple #[.slice a (zx m).length c, .int .i64 0]) ∧ ((zx m).length = 0 ∨ a = some ⟨b, off, none⟩) ∧ (∀ k, k < (zx m).length → w'.cell? ⟨b, off + k, none⟩ = some (.int .i64 ((fb (zf m k) : Nat) : Int))) ∧ Below w.heap.size w w') :=
  (Parts_yes m w hm).mono fun e w' ⟨a, c, h1, h2, h3, h4⟩ => by
    rw [fI_length] at h1
    rcases h3 with h | ⟨b, off, e', h⟩
    · rw [fI_length] at h
      exact ⟨0, 0, c, a, h1, .inl h, fun k hk => by omega, h4⟩
    · refine ⟨b, off, c, a, h1, .inr e', fun k hk => ?_, h4⟩
      rw [h k (by rw [fI_length]; exact hk), nth_fI hk]
      rfl
set_option maxRecDepth 100000 in
set_option maxHeartbeats 4000000 in
theorem zeckendorf_law (n0 : Nat) (w : World) (h1 : n0 ≤ 18446744073709551615) :
    Calls Try.prog 8 #[.int .u64 (n0 : Int)] w (Ret (.bool true) w) := by
  have A1 := Lib.hid (fun W => heap_any n0 W h1)
  have hm := hpN_le n0
  generalize hpN n0 = m at *
  have AL := Lib.hid alive_any
  have P := Lib.hid (fun W => parts_zf m W hm)
  have hn := zx_len m hm
  have hsum := Lib.hid (zs_all m)
  have hstep : Hid (∀ k, k < (zx m).length → zs m (k + 1) = zs m k + fb (zf m k)) := Lib.hid fun k hk => sm_take hk
  have hgap : Hid (∀ k, 0 < k → k < (zx m).length → zf m k + 2 ≤ zf m (k - 1)) := Lib.hid fun k h0 hk => by
    have := zx_gap m (k - 1) (by omega)
    rwa [show k - 1 + 1 = k by omega] at this
  have hle : Hid (∀ k, k < (zx m).length → fb (zf m k) ≤ m) := Lib.hid (zf_le m)
  generalize (zx m).length = n at *
  go_enter Try.func8, Try.ntmps8
  go_wp2_with (first
    | (go_at_call 38; (with_reducible refine (A1.out _).mono ?_); rintro e w1 ⟨rfl, rfl⟩)
    | (go_at_call 16; refine (P.out _).mono ?_; rintro e w2 ⟨b, off, c, a, rfl, ha, hc, hb2⟩; replace hb2 := Lib.hid hb2; replace hc := Lib.hid hc))
  go_loopw [6, 7] (fun s i wr => ∃ k : Nat, k ≤ n ∧ s = .int .i64 ((zs m k : Nat) : Int) ∧ i = .int .i64 k ∧ (∀ j, j < n → wr.cell? ⟨b, off + j, none⟩ = some (.int .i64 ((fb (zf m j) : Nat) : Int))) ∧ Below w.heap.size w wr) (fun _ i _ => n - (intOf i).toNat)
  case atStart => exact ⟨0, by omega, rfl, rfl, hc.out, hb2.out⟩
  case round =>
    clear hc hb2
    obtain ⟨k, hk, rfl, rfl, hc, hb⟩ := hrel
    by_cases hlt : k < n
    · rcases ha with ha | rfl
      · omega
      have hlt' : (k : Int) < (n : Int) := by omega
      have hx := hc k hlt
      have hs1 := zs_le m k
      have hs2 := zs_le m (k + 1)
      have hst := hstep.out k hlt
      have hx2 := hle.out k hlt
      have hx1 := fb_pos (zf m k)
      have IX : Hid (∀ W : World, Calls Try.prog 39 #[.int .i64 ((fb (zf m k) : Nat) : Int)] W (Only (.int .i64 ((zf m k : Nat) : Int)) W)) := Lib.hid fun W => index_yes (zf m k) _ W rfl (by omega)
      have hnx : Hid (((zs m (k + 1) : Nat) : Int) = ((zs m k : Nat) : Int) + ((fb (zf m k) : Nat) : Int)) := Lib.hid (by omega)
      generalize hzs : zs m k = s at *
      by_cases h0 : 0 < k
      · have h0' : (0 : Int) < (k : Int) := by omega
        have hg := hgap.out k h0 hlt
        have hy := hc (k - 1) (by omega)
        have hy2 := hle.out (k - 1) (by omega)
        have IY : Hid (∀ W : World, Calls Try.prog 39 #[.int .i64 ((fb (zf m (k - 1)) : Nat) : Int)] W (Only (.int .i64 ((zf m (k - 1) : Nat) : Int)) W)) := Lib.hid fun W => index_yes (zf m (k - 1)) _ W rfl (by omega)
        have hbx := fb_big (zf m (k - 1))
        generalize fb (zf m k) = x at *
        generalize fb (zf m (k - 1)) = y at *
        generalize zf m k = p at *
        generalize zf m (k - 1) = q at *
        have z1 : (0 : Int) ≤ (k : Int) - 1 := by omega
        have z2 : ((k : Int) - 1).toNat = k - 1 := by omega
        have z3 : (k : Int) - 1 < (n : Int) := by omega
        have z4 : (1 : Int) ≤ (x : Int) := by omega
        have z5 : (x : Int) ≤ 1099511627776 := by omega
        have z6 : (0 : Int) ≤ (p : Int) := by omega
        have d1 : decide ((x : Int) < 1) = false := decide_eq_false (by omega)
        have d2 : decide ((1099511627776 : Int) < (x : Int)) = false := decide_eq_false (by omega)
        have d3 : decide ((p : Int) < 0) = false := decide_eq_false (by omega)
        have z7 : (p : Int) ≤ (q : Int) - 2 := by omega
        have d4 : decide ((0 : Int) < (k : Int)) = true := decide_eq_true (by omega)
        have d5 : decide ((q : Int) - 2 < (p : Int)) = false := decide_eq_false (by omega)
        have cx := cellX hx
        have cy := cellX hy
        go_wp2
        refine wp_region_ext (by kernel_rfl) (by kernel_rfl) ?_
        repeat (go_big_quiet_step (first | (go_at_call 39; with_reducible exact onlyE (IX.out _)) | (go_at_call 39; with_reducible exact onlyE (IY.out _))))
        refine wpQuiet_nil ?_
        rintro ⟨w1, hw1⟩
        dsimp only
        clear cx cy
        have hx' := cellB hw1 hx
        have hb' := Lib.hid (nextB hb hw1)
        have hc' := Lib.hid (fun j hj => cellB hw1 (hc j hj))
        clear hx hy
        go_wp2
        go_roundw
        case rel => exact ⟨k + 1, by omega, by go_num, by go_num, hc'.out, hb'.out⟩
        case measure => simp [intOf]; omega
      · have h0' : (k : Int) ≤ 0 := by omega
        generalize fb (zf m k) = x at *
        generalize zf m k = p at *
        have z4 : (1 : Int) ≤ (x : Int) := by omega
        have z5 : (x : Int) ≤ 1099511627776 := by omega
        have z6 : (0 : Int) ≤ (p : Int) := by omega
        have d1 : decide ((x : Int) < 1) = false := decide_eq_false (by omega)
        have d2 : decide ((1099511627776 : Int) < (x : Int)) = false := decide_eq_false (by omega)
        have d3 : decide ((p : Int) < 0) = false := decide_eq_false (by omega)
        have d4 : decide ((0 : Int) < (k : Int)) = false := decide_eq_false (by omega)
        have cx := cellX hx
        go_wp2
        refine wp_region_ext (by kernel_rfl) (by kernel_rfl) ?_
        repeat (go_big_quiet_step (first | (go_at_call 39; with_reducible exact onlyE (IX.out _))))
        refine wpQuiet_nil ?_
        rintro ⟨w1, hw1⟩
        dsimp only
        clear cx
        have hx' := cellB hw1 hx
        have hb' := Lib.hid (nextB hb hw1)
        have hc' := Lib.hid (fun j hj => cellB hw1 (hc j hj))
        clear hx
        go_wp2
        go_roundw
        case rel => exact ⟨k + 1, by omega, by go_num, by go_num, hc'.out, hb'.out⟩
        case measure => simp [intOf]; omega
    · obtain rfl : k = n := by omega
      have hs := hsum.out
      rw [hs]
      replace hb := Lib.hid hb
      go_wp2_with (first
        | (go_at_call 23; refine (AL.out _).mono ?_; rintro e w6 ⟨rfl, hb6⟩))
      go_ret
      exact Ret.mk rfl (nextB hb.out hb6)
end Go.Proofs.Ytdafpjapepfniaa
