/- Layer 8, by the program: plots. -/
import Derived.Test.YtniknldeafmgaaaHb
namespace Go.Proofs.Ytniknldeafmgaaa
set_option linter.unusedSimpArgs false
set_option linter.unusedVariables false
open Go Go.RowKit

/-- The plots of row r below column j that are of a kind. -/
def rwL (K : Nat → Nat → Bool) (r j : Nat) : List (Nat × Nat) := ((List.range j).filter (K r)).map fun j => (r, j)
/-- .. of the rows below i. -/
def plT (K : Nat → Nat → Bool) (b i : Nat) : List (Nat × Nat) := (List.range i).flatMap fun r => rwL K r b
/-- .. and of row i below column j. -/
def plU (K : Nat → Nat → Bool) (b i j : Nat) : List (Nat × Nat) := plT K b i ++ rwL K i j
theorem plU_zero (K : Nat → Nat → Bool) (b i : Nat) : plU K b i 0 = plT K b i := by simp [plU, rwL]
theorem plU_end (K : Nat → Nat → Bool) (b i : Nat) : plU K b i b = plT K b (i + 1) := by unfold plU plT; rw [List.range_succ, List.flatMap_append]; simp
theorem plU_yes {K : Nat → Nat → Bool} {b i j : Nat} (h : K i j = true) : plU K b i (j + 1) = plU K b i j ++ [(i, j)] := by
  unfold plU rwL
  rw [List.range_succ, List.filter_append, List.map_append, ← List.append_assoc]
  simp [h]
theorem plU_no {K : Nat → Nat → Bool} {b i j : Nat} (h : K i j = false) : plU K b i (j + 1) = plU K b i j := by
  unfold plU rwL
  rw [List.range_succ, List.filter_append, List.map_append, ← List.append_assoc]
  simp [h]
theorem rwL_len (K : Nat → Nat → Bool) (r j : Nat) : (rwL K r j).length ≤ j := by
  unfold rwL
  rw [List.length_map]
  exact Nat.le_trans (List.length_filter_le _ _) (by simp)
theorem plT_len (K : Nat → Nat → Bool) (b : Nat) : ∀ i, (plT K b i).length ≤ i * b
  | 0 => by simp [plT]
  | i + 1 => by
    have ih := plT_len K b i
    have h := rwL_len K i b
    rw [← plU_end, plU, List.length_append, Nat.succ_mul]; omega
theorem plU_len (K : Nat → Nat → Bool) (b i j : Nat) : (plU K b i j).length ≤ i * b + j := by
  have := plT_len K b i
  have := rwL_len K i j
  unfold plU
  rw [List.length_append]; omega
/-- The cells of plots. -/
def cQ (L : List (Nat × Nat)) : List Value := L.flatMap fun p => [.int .i64 (p.1 : Int), .int .i64 (p.2 : Int)]
theorem cQ_snoc (L : List (Nat × Nat)) (p : Nat × Nat) : cQ (L ++ [p]) = cQ L ++ [.int .i64 (p.1 : Int), .int .i64 (p.2 : Int)] := by simp [cQ]
theorem cQ_length (L : List (Nat × Nat)) : (cQ L).length = L.length * 2 := by
  induction L with
  | nil => rfl
  | cons p L ih => show (cQ L).length + 1 + 1 = _; rw [ih, List.length_cons]; omega
theorem cQ_at (L : List (Nat × Nat)) (i : Nat) (h : i < L.length) : (cQ L)[i * 2]? = some (.int .i64 ((L.getD i (0, 0)).1 : Int)) ∧ (cQ L)[i * 2 + 1]? = some (.int .i64 ((L.getD i (0, 0)).2 : Int)) := by
  induction L generalizing i with
  | nil => simp at h
  | cons p L ih =>
    have e : cQ (p :: L) = .int .i64 (p.1 : Int) :: .int .i64 (p.2 : Int) :: cQ L := rfl
    cases i with
    | zero => rw [e]; exact ⟨rfl, rfl⟩
    | succ i =>
      obtain ⟨h1, h2⟩ := ih i (by simpa using h)
      rw [e, show (i + 1) * 2 = i * 2 + 1 + 1 by omega]
      exact ⟨by simpa using h1, by simpa using h2⟩
theorem infoPair : (Try.prog.info? 31).map (fun i => (i.zero, i.size, i.bytes)) = some (some (.agg #[.int .i64 0, .int .i64 0]), 2, 16) := by kernel_rfl
/-- New plots were returned. -/
def NewQ (L : List (Nat × Nat)) (w : World) (e : Ending) (w' : World) : Prop := ∃ v, e = .returned v ∧ w'.ownsRow w.heap.size 31 2 v L.length (cQ L) ∧ Below w.heap.size w w'
theorem cell_two_pair (w : World) (x y : Int) (t : TypeId) : ∀ j u, [Value.int .i64 x, Value.int .i64 y][j]? = some u → (w.alloc (.cells #[.int .i64 x, .int .i64 y] t)).cell? (Addr.add ⟨w.heap.size, 0, none⟩ j) = some u := by
  intro j u hj
  have ha : Addr.add ⟨w.heap.size, 0, none⟩ j = ⟨w.heap.size, j, none⟩ := by first | (simp [Addr.add]; done) | (simp [Addr.add]; omega)
  rw [ha]
  exact (Blk.new w t _).c j (by rw [← hj]; simp)
theorem own_slice' {w : World} {base n size : Nat} {e : TypeId} {v : Value} {xs : List Value} (h : w.ownsRow base e size v n xs) : ∃ a c, v = .slice a n c ∧ n ≤ c := by
  rcases h.2 with ⟨rfl, h2⟩ | ⟨gg, cap, cur, rfl, _, _, hcap, _⟩
  · exact ⟨none, 0, by rw [h2], by omega⟩
  · exact ⟨_, cap, rfl, hcap⟩
set_option maxRecDepth 100000 in
set_option maxHeartbeats 4000000 in
theorem plots_any (a b : Nat) (g : Nat → Nat) (fn : FuncId) (K : Nat → Nat → Bool) (w : World) (hp : IsP a b g)
    (HE : ∀ args W, (callFunc fn args).run Try.prog W = .ok (.enter fn args) W)
    (H : ∀ i j, i < a → j < b → ∀ W, Calls Try.prog fn #[pV a b g, .agg (qC (i : Int) (j : Int))] W (Ret (.bool (K i j)) W)) :
    Calls Try.prog 63 #[pV a b g, .func (.func fn) #[pV a b g] #[]] w (NewQ (plT K b a) w) := by
  obtain ⟨i0, hi, hz0, hz1, hz2⟩ := info_parts infoPair
  have G0 := Lib.hid hi
  have G1 := Lib.hid hz0
  have G2 := Lib.hid hz1
  have G3 := Lib.hid hz2
  clear hi hz0 hz1 hz2
  have ha6 := hp.a6
  have hb6 := hp.b6
  have k0 := Lib.hid (Blk.new w 66 (pC a b g))
  have B := Lib.hid (b1 w (.cells (pC a b g) 66))
  have hU0 := Lib.hid (plU_zero K b)
  have hUe := Lib.hid (plU_end K b)
  have hUl := Lib.hid (plU_len K b)
  have hT0 : Hid (plT K b 0 = []) := Lib.hid rfl
  replace H := Lib.hid H
  clear hp
  go_enter Try.func63, Try.ntmps63
  go_wp2
  go_loopw [5, 6, 7, 8, 11] (fun v _ _ _ q wr => ∃ i : Nat, i ≤ a ∧ q = .int .i64 (i : Int) ∧ wr.ownsRow (w.heap.size + 1) 31 2 v (plT K b i).length (cQ (plT K b i)) ∧ Blk wr w.heap.size 66 (pC a b g) ∧ Below w.heap.size w wr) (fun _ _ _ _ q _ => a - (intOf q).toNat)
  case atStart => exact ⟨0, Nat.zero_le _, rfl, by rw [hT0.out]; exact World.ownsRow_nil _ _ _ _, k0.out, B.out⟩
  case round =>
    clear k0 B
    obtain ⟨i, hi, rfl, hown, k0, B⟩ := hrel
    obtain ⟨p0, p1, _⟩ := k0.pc
    obtain ⟨av, cv, rfl, hcv⟩ := own_slice' hown
    by_cases hia : i < a
    · have hia' : (i : Int) < (a : Int) := by omega
      have hU0' := Lib.hid (hU0.out i)
      have hUe' := Lib.hid (hUe.out i)
      have hUl' := Lib.hid (hUl.out i)
      replace hown := Lib.hid hown
      replace k0 := Lib.hid k0
      replace B := Lib.hid B
      go_wp2
      clear p0 p1
      go_loopw [5, 7, 8, 16] (fun v _ _ q wr => ∃ j : Nat, j ≤ b ∧ q = .int .i64 (j : Int) ∧ wr.ownsRow (w.heap.size + 1) 31 2 v (plU K b i j).length (cQ (plU K b i j)) ∧ Blk wr w.heap.size 66 (pC a b g) ∧ Below w.heap.size w wr) (fun _ _ _ q _ => b - (intOf q).toNat)
      case atStart => exact ⟨0, Nat.zero_le _, rfl, by rw [hU0'.out]; exact hown.out, k0.out, B.out⟩
      case round =>
        clear hown k0 B
        obtain ⟨j, hj, rfl, hown, k0, B⟩ := hrel
        obtain ⟨av, cv, rfl, hcv⟩ := own_slice' hown
        have hs1 := k0.lt
        replace B := Lib.hid B
        by_cases hjb : j < b
        · have hjb' : (j : Int) < (b : Int) := by omega
          have hlen := hUl'.out j
          have hib : i * b ≤ 30 := by
            have := Nat.mul_le_mul (show i ≤ 5 by omega) hb6
            omega
          have hH := Lib.hid (H.out i j hia hjb)
          have j0 := Lib.hid (k0.alloc (.cells (qC (i : Int) (j : Int)) 31))
          have j3 := Lib.hid (Blk.new wr 31 (qC (i : Int) (j : Int)))
          have jo := Lib.hid (hown.alloc (.cells (qC (i : Int) (j : Int)) 31))
          have hB := Lib.hid (B.out.trans ((b1 wr (.cells (qC (i : Int) (j : Int)) 31)).mono B.out.size))
          have hnD : Hid ((Value.slice av (plU K b i j).length cv).ownBlock ≠ some wr.heap.size) := Lib.hid (fun e => by have := (hown.lt _ e).2; omega)
          clear hown k0 B
          go_upto_region 9 with (fail)
          generalize wr.alloc (.cells (qC (i : Int) (j : Int)) 31) = W at *
          generalize wr.heap.size = D at *
          obtain ⟨q0, q1⟩ := j3.out.qc
          go_wp2_with (fail)
          refine (hH.out _).mono ?_
          rintro _ w2 ⟨rfl, hw2⟩
          dsimp only
          have m0 := Lib.hid (j0.out.ext hw2)
          have m3 := j3.out.ext hw2
          have mo := Lib.hid (owns_next jo.out hw2)
          have mB := Lib.hid (nextB hB.out hw2)
          have hsw := mB.out.size
          have hs2 := m0.out.lt
          obtain ⟨q0, q1⟩ := m3.qc
          clear j0 j3 jo hB hw2 hH
          cases hK : K i j
          · have hn := Lib.hid (plU_no (b := b) hK)
            replace hK := Lib.hid hK
            go_wp2
            go_roundw
            case rel => exact ⟨j + 1, by omega, by go_num, by rw [hn.out]; exact mo.out, m0.out, mB.out⟩
            case measure => simp [intOf]; omega
          · have hn := Lib.hid (plU_yes (b := b) hK)
            replace hK := Lib.hid hK
            obtain ⟨N, hN⟩ : ∃ N, Hid ((plU K b i j).length = N) := ⟨_, Lib.hid rfl⟩
            rw [hN.out] at hlen mo hcv ⊢
            have hc2 := Lib.hid (cell_two_pair w2 (i : Int) (j : Int) 31)
            have hNM : N + 1 ≤ 1000 := by omega
            go_wp2_with (at_builtin; refine wpList_append_own _ rfl _ _ 32 rfl (w.heap.size + 1) 31 i0 (.agg #[.int .i64 0, .int .i64 0]) 2 16 Try.underlying32 G0.out G1.out G2.out G3.out rfl (by decide) _ _ _ rfl (mo.out.alloc _) ⟨_, 0, none⟩ 1 1 [.int .i64 (i : Int), .int .i64 (j : Int)] rfl rfl hc2.out (by simp [Value.oneCell']) (by unfold maxLen; omega) (by omega) (by simp; omega) ?_; intro v' w6 hown6 hgrow _)
            have B6 := Lib.hid ((mB.out.alloc hsw _).grown hgrow (by simp; omega) (fun q hq => by have := (mo.out.lt q hq).1; omega))
            have k6 := Lib.hid (blk_grown (m0.out.alloc _) hgrow (fun e => by have := (mo.out.lt _ e.symm).1; omega))
            go_roundw
            case rel => exact ⟨j + 1, by omega, by go_num, by rw [hn.out, List.length_append, hN.out, cQ_snoc]; exact hown6, k6.out, B6.out⟩
            case measure => simp [intOf]; omega
        · have hjb' : (b : Int) ≤ (j : Int) := by omega
          obtain rfl : j = b := by omega
          rw [hUe'.out] at hown ⊢
          replace hown := Lib.hid hown
          replace k0 := Lib.hid k0
          go_wp2
          go_roundw
          case rel => exact ⟨i + 1, by omega, by go_num, hown.out, k0.out, B.out⟩
          case measure => simp [intOf]; omega
    · have hia' : (a : Int) ≤ (i : Int) := by omega
      obtain rfl : i = a := by omega
      replace hown := Lib.hid hown
      go_wp2
      go_ret
      exact ⟨_, rfl, owns_base hown.out (Nat.le_succ _), B⟩
end Go.Proofs.Ytniknldeafmgaaa
