/- Layer 5, by the specification: Count, walked. -/
import Derived.Test.YtmejahoodeeijaaDoorQb
namespace Go.Proofs.YtmejahoodeeijaaDoor
open Go Go.RowKit

theorem own_keep {w w' : World} {base n size : Nat} {e : TypeId} {v : Value} {xs : List Value} {row : Option Nat} (h : w.ownsRow base e size v n xs) (hg : w.grownBy w' row) (hne : row ≠ v.ownBlock) (hn : 0 < n) : w'.ownsRow base e size v n xs := by
  refine ⟨h.1, ?_⟩
  rcases h.2 with ⟨_, h0⟩ | ⟨g, cap, cur, rfl, h1, h2, h3⟩
  · omega
  · refine .inr ⟨g, cap, cur, rfl, h1, ?_, h3⟩
    rw [hg.block g (Array.getElem?_eq_some_iff.1 h2).1 (fun k => hne k.symm)]
    exact h2
theorem own_apartX {W : World} {base n size : Nat} {e : TypeId} {v v' u : Value} {xs : List Value} (h : W.ownsRow base e size u n xs) (hn : 0 < n) (hne : v.ownBlock ≠ u.ownBlock) (hf : v'.ownBlock = v.ownBlock ∨ ∀ k, v'.ownBlock = some k → W.heap.size ≤ k) : v'.ownBlock ≠ u.ownBlock := by
  rcases hf with hf | hf
  · rw [hf]; exact hne
  · obtain ⟨g, cap, rfl⟩ := own_pos h hn
    intro k
    have := hf g k
    have := (h.lt g rfl).2
    omega
theorem lI_two (W : World) (base B : Nat) (x y : Int) (hb : base ≤ B) (h : Blk W B 3 #[.int .i64 x, .int .i64 y]) : W.ownsRow base 3 1 (.slice (some ⟨B, 0, none⟩) 2 2) 2 (lI [x, y]) :=
  ⟨rfl, .inr ⟨B, 2, _, rfl, hb, h, by decide, by unfold maxLen; decide, rfl, rfl⟩⟩
theorem lI_take (T : List Int) (m : Nat) (h : m < T.length) : lI (T.take (m + 1)) = lI (T.take m) ++ [.int .i64 (nth T m)] := by
  rw [take_snocI T m h, lI_snoc]
theorem take_nth {T : List Int} {m i : Nat} (h : i < m) : nth (T.take m) i = nth T i := by
  unfold nth
  rw [List.getD_eq_getElem?_getD, List.getElem?_take, if_pos h, List.getD_eq_getElem?_getD]
set_option maxRecDepth 100000 in
set_option maxHeartbeats 4000000 in
theorem refCount_any (n : Int) (w : World) : Calls Tryd.prog 6 #[.int .i64 n] w (Ret (.tuple #[.int .i64 (cntE n).1, .int .i64 (cntE n).2]) w) := by
  unfold cntE
  cases hn : numB n
  · unfold numB at hn
    simp only [Bool.and_eq_false_iff, decide_eq_false_iff_not] at hn
    simp only [Bool.false_eq_true, if_false]
    by_cases h1 : n < 1
    · go_enter Tryd.func6, Tryd.ntmps6
      go_wp2
      go_ret2
      exact Ret.mk rfl (Below.refl _ _)
    · have h2 : 8 < n := by omega
      go_enter Tryd.func6, Tryd.ntmps6
      go_wp2
      go_ret2
      exact Ret.mk rfl (Below.refl _ _)
  · unfold numB at hn
    simp only [Bool.and_eq_true, decide_eq_true_eq] at hn
    obtain ⟨N, rfl⟩ : ∃ m : Nat, n = (m : Int) := ⟨n.toNat, by omega⟩
    have h1 : 1 ≤ N := by omega
    have h8 : N ≤ 8 := by omega
    clear hn
    simp only [if_true, Int.toNat_natCast]
    rw [cntE_T1 N (by omega) h1]
    have n1 : ¬ (N : Int) < 1 := by omega
    have n2 : ¬ (8 : Int) < (N : Int) := by omega
    have bA := Lib.hid ((b1 w (.cells #[.int .i64 0, .int .i64 1] 3)).alloc (by simp) (.cells #[.int .i64 1, .int .i64 1] 3))
    have hBa := Lib.hid ((Blk.new w 3 #[.int .i64 0, .int .i64 1]).alloc (.cells #[.int .i64 1, .int .i64 1] 3))
    have hBb := Lib.hid (Blk.new (w.alloc (.cells #[.int .i64 0, .int .i64 1] 3)) 3 #[.int .i64 1, .int .i64 1])
    obtain ⟨i0, hi, hz0, hz1, hz2⟩ := info_parts infoInt
    have G0 := Lib.hid hi
    have G1 := Lib.hid hz0
    have G2 := Lib.hid hz1
    have G3 := Lib.hid hz2
    clear hi hz0 hz1 hz2
    go_enter Tryd.func6, Tryd.ntmps6
    go_wp2
    go_loopw [4, 5, 6] (fun u v i wr => ∃ m : Nat, 2 ≤ m ∧ m ≤ max 2 (N + 1) ∧ i = .int .i64 m ∧ wr.ownsRow w.heap.size 3 1 u m (lI (T1.take m)) ∧ wr.ownsRow w.heap.size 3 1 v m (lI (T2.take m)) ∧ u.ownBlock ≠ v.ownBlock ∧ Below w.heap.size w wr) (fun _ _ i _ => N + 2 - (intOf i).toNat)
    case atStart => exact ⟨2, Nat.le_refl _, by omega, rfl, lI_two _ _ _ 0 1 (Nat.le_refl _) hBa.out, lI_two _ _ _ 1 1 (by simp) (by simpa using hBb.out), by simp [Value.ownBlock], bA.out⟩
    case round =>
      clear bA hBa hBb
      obtain ⟨m, hm2, hmN, rfl, ho1, ho2, hap, B0⟩ := hrel
      by_cases hlt : m ≤ N
      · have hm8 : m ≤ 8 := by omega
        have hmi : (m : Int) ≤ (N : Int) := by omega
        have hT1 := Lib.hid (lI_take T1 m (by show m < 9; omega))
        have hT2 := Lib.hid (lI_take T2 m (by show m < 9; omega))
        have hE := Lib.hid (sumC_end m (by omega) hm2)
        have hE2 := Lib.hid (T2_end m (by omega) hm2)
        have hB1 := Lib.hid (T1_bd m (by omega))
        obtain ⟨g1, c1, hu⟩ := own_pos ho1 (by omega)
        obtain ⟨g2, c2, hv⟩ := own_pos ho2 (by omega)
        subst hu hv
        have hl1 := (ho1.lt g1 rfl)
        have hl2 := (ho2.lt g2 rfl)
        obtain ⟨_, hc1⟩ := own_ints ho1
        obtain ⟨_, hc2⟩ := own_ints ho2
        replace hc1 := Lib.hid hc1
        replace hc2 := Lib.hid hc2
        replace ho1 := Lib.hid ho1
        replace ho2 := Lib.hid ho2
        replace hap := Lib.hid hap
        go_wp2
        go_loopw [7, 8] (fun s i wr' => ∃ k : Nat, 1 ≤ k ∧ k ≤ m ∧ i = .int .i64 k ∧ s = .int .i64 (sumC m k) ∧ Below wr.heap.size wr wr') (fun _ i _ => m - (intOf i).toNat)
        case atStart => exact ⟨1, Nat.le_refl _, by omega, rfl, rfl, Below.refl _ _⟩
        case round =>
          obtain ⟨k, hk1, hkm, rfl, rfl, B1⟩ := hrel
          by_cases hk : k < m
          · have hki : (k : Int) < (m : Int) := by omega
            obtain ⟨j, rfl⟩ : ∃ j, k = j + 1 := ⟨k - 1, by omega⟩
            have x0 := cellB B1 (hc1.out (j + 1) hk)
            have x1 := cellB B1 (hc2.out (m - (j + 1)) (by omega))
            rw [take_nth hk, Nat.zero_add] at x0
            rw [take_nth (by omega), Nat.zero_add] at x1
            replace x0 := cellX x0
            replace x1 := cellX x1
            obtain ⟨p1, p2⟩ := co_bd (m - 1) (by omega) j (by omega)
            obtain ⟨p3, p4⟩ := T1_bd (j + 1) (by omega)
            obtain ⟨p5, p6⟩ := T2_bd (m - (j + 1)) (by omega)
            obtain ⟨p7, p8⟩ := sumC_bd m (by omega) (j + 1) (by omega)
            have hs := Lib.hid (show sumC m (j + 2) = sumC m (j + 1) + co (m - 1) j * nth T1 (j + 1) * nth T2 (m - (j + 1)) from rfl)
            have C := Lib.hid (fun W => choose_any (m - 1) j W (by omega) (by omega) (fun t ht => by have := co_bd (m - 1) (by omega) t (by omega); omega))
            have q1 : ((m - 1 : Nat) : Int) = (m : Int) - 1 := by omega
            rw [q1] at C
            generalize co (m - 1) j = a at *
            generalize nth T1 (j + 1) = b at *
            generalize nth T2 (m - (j + 1)) = c at *
            generalize sumC m (j + 1) = d at *
            have r1 : 0 ≤ a * b := Int.mul_nonneg p1 p3
            have r2 : a * b ≤ 1000 * 700000 := Int.mul_le_mul p2 p4 p3 (by omega)
            have r3 : 0 ≤ a * b * c := Int.mul_nonneg r1 p5
            have r4 : a * b * c ≤ 1000 * 700000 * 1400000 := Int.mul_le_mul r2 p6 p5 (by omega)
            have e1 : IntKind.i64.wrap (a * b) = a * b := IntWalk.i64_in _ (by omega)
            have e2 : IntKind.i64.wrap (a * b * c) = a * b * c := IntWalk.i64_in _ (by omega)
            have e3 : IntKind.i64.wrap (d + a * b * c) = d + a * b * c := IntWalk.i64_in _ (by omega)
            have i1 : IntKind.i64.wrap ((m : Int) - 1) = (m : Int) - 1 := IntWalk.i64_in _ (by omega)
            have i2 : IntKind.i64.wrap (((j + 1 : Nat) : Int) - 1) = (j : Int) := by rw [IntWalk.i64_in _ (by omega)]; omega
            have i3 : IntKind.i64.wrap ((m : Int) - ((j + 1 : Nat) : Int)) = (m : Int) - ((j + 1 : Nat) : Int) := IntWalk.i64_in _ (by omega)
            have i4 : ((m : Int) - ((j + 1 : Nat) : Int)).toNat = m - (j + 1) := by omega
            have i5 : (0 : Int) ≤ (m : Int) - ((j + 1 : Nat) : Int) := by omega
            have i6 : (m : Int) - ((j + 1 : Nat) : Int) < (m : Int) := by omega
            have i7 : (0 : Int) ≤ ((j + 1 : Nat) : Int) := by omega
            clear p1 p2 p3 p4 p5 p6 p7 p8 r1 r2 r3 r4 q1
            go_wp2
            refine wp_region_ext (by kernel_rfl) (by kernel_rfl) ?_
            repeat (go_big_quiet_step (with_reducible exact onlyE (C.out _)))
            refine wpQuiet_nil ?_
            rintro ⟨w2, hw2⟩
            dsimp only
            clear x0 x1
            go_wp2
            go_roundw
            case rel => exact ⟨j + 2, by omega, by omega, by go_num, by rw [hs.out], nextB B1 hw2⟩
            case measure => simp [intOf]; omega
          · obtain rfl : k = m := by omega
            rw [hE.out]
            have ho1' := owns_next ho1.out B1
            have ho2' := owns_next ho2.out B1
            have B2 := B0.trans (B1.mono B0.size)
            have hb1 := B1.size
            have hb2 := B2.size
            obtain ⟨b1, b2⟩ := hB1.out
            generalize nth T1 k = x at *
            have e1 : IntKind.i64.wrap (2 * x) = 2 * x := IntWalk.i64_in _ (by omega)
            go_wp2_with (first
              | (at_builtin; refine wpList_append_ownX _ rfl _ _ 38 rfl w.heap.size 3 i0 (.int .i64 0) 1 8 Tryd.underlying38 G0.out G1.out G2.out G3.out rfl (by decide) _ _ _ rfl (ho1'.alloc _) ⟨_, 0, none⟩ 1 1 [.int .i64 x] rfl rfl (by decide) (cell_one_new _ _ _) (by simp [Value.oneCell']) (by unfold maxLen; omega) (by omega) (by simp; omega) ?_; intro u' w3 ho3 hg3 hf3)
              | (at_builtin; refine wpList_append_ownX _ rfl _ _ 38 rfl w.heap.size 3 i0 (.int .i64 0) 1 8 Tryd.underlying38 G0.out G1.out G2.out G3.out rfl (by decide) _ _ _ rfl ((own_keep (ho2'.alloc _) hg3 hap.out (by omega)).alloc _) ⟨_, 0, none⟩ 1 1 [.int .i64 (2 * x)] rfl rfl (by decide) (cell_one_new _ _ _) (by simp [Value.oneCell']) (by unfold maxLen; omega) (by omega) (by have := hg3.size; simp at this; simp; omega) ?_; intro v' w4 ho4 hg4 hf4))
            have hs3 := hg3.size
            have hs4 := hg4.size
            simp at hs3 hs4
            have g1q := fun q (hq : (Value.slice (some ⟨g1, 0, none⟩) k c1).ownBlock = some q) => (ho1.out.lt q hq).1
            have g2q := fun q (hq : (Value.slice (some ⟨g2, 0, none⟩) k c2).ownBlock = some q) => (ho2.out.lt q hq).1
            have B3 := (B2.alloc hb2 (.cells #[.int .i64 x] 3)).grown hg3 (by simp; omega) g1q
            have B4 := (B3.alloc B3.size (.cells #[.int .i64 (2 * x)] 3)).grown hg4 (by simp; omega) g2q
            have ap3 := own_apartX (ho2'.alloc (.cells #[.int .i64 x] 3)) (by omega) hap.out hf3
            have ho3' := own_keep (ho3.alloc (.cells #[.int .i64 (2 * x)] 3)) hg4 (fun h => ap3 h.symm) (by omega)
            have ap4 := own_apartX (ho3.alloc (.cells #[.int .i64 (2 * x)] 3)) (by omega) (fun h => ap3 h.symm) hf4
            go_roundw
            case rel => exact ⟨k + 1, by omega, by omega, by go_num, by rw [hT1.out]; exact ho3', by rw [hT2.out, hE2.out]; exact ho4, fun h => ap4 h.symm, B4⟩
            case measure => simp [intOf]; omega
      · have hmi : ¬ (m : Int) ≤ (N : Int) := by omega
        obtain rfl : m = max 2 (N + 1) := by omega
        have hNm : N < max 2 (N + 1) := by omega
        obtain ⟨g1, c1, hu⟩ := own_pos ho1 (by omega)
        subst hu
        obtain ⟨_, hc1⟩ := own_ints ho1
        have x0 := hc1 N hNm
        rw [take_nth hNm, Nat.zero_add] at x0
        have hNi : (N : Int) < ((max 2 (N + 1) : Nat) : Int) := by omega
        generalize max 2 (N + 1) = m at *
        go_wp2
        go_ret2
        exact Ret.mk rfl B0
end Go.Proofs.YtmejahoodeeijaaDoor
