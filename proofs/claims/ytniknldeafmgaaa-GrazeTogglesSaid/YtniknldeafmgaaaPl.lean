/- Layer 8, the law of a day by turns. -/
import Derived.Test.YtniknldeafmgaaaOd
import Derived.Test.YtniknldeafmgaaaPi
namespace Go.Proofs.Ytniknldeafmgaaa
set_option linter.unusedSimpArgs false
set_option linter.unusedVariables false
open Go Go.RowKit

theorem dgN_pos {a b d : Nat} (ha : 1 ≤ a) (hb : 1 ≤ b) (h : d ≤ a + b - 2) : 0 < (dgN a b d).length := by
  apply List.length_pos_of_mem (a := (min d (a - 1), d - min d (a - 1)))
  unfold dgN
  refine List.mem_map.2 ⟨min d (a - 1), ?_, rfl⟩
  rw [List.mem_filter, List.mem_range, decide_eq_true_eq]
  omega
theorem cQ_app (L M : List (Nat × Nat)) : cQ (L ++ M) = cQ L ++ cQ M := by simp [cQ]
theorem cQ_one (L : List (Nat × Nat)) : ∀ u ∈ cQ L, u.oneCell' = true := fun u hu => by
  unfold cQ at hu
  obtain ⟨p, _, hp⟩ := List.mem_flatMap.1 hu
  simp only [List.mem_cons, List.not_mem_nil, or_false] at hp
  rcases hp with rfl | rfl <;> rfl
theorem has_zQ {a b : Nat} {M : List (Nat × Nat)} (h : ∀ p ∈ M, p.1 < a ∧ p.2 < b) : ∀ i, i < M.length → HasP a b (pth (zQ M) i).1 (pth (zQ M) i).2 := fun i hi => by
  have e : pth (zQ M) i = (((M[i]).1 : Int), ((M[i]).2 : Int)) := by simp [pth, zQ, hi]
  have h1 := h _ (List.getElem_mem hi)
  rw [e]
  unfold HasP
  dsimp only
  omega
/-- Bytes can be read. -/
def Bys (w : World) (a : Option Addr) (n : Nat) : Prop := n = 0 ∨ ∃ b off, a = some ⟨b, off, none⟩ ∧ ∀ i, i < n → ∃ v : Nat, v ≤ 255 ∧ w.cell? ⟨b, off + i, none⟩ = some (.int .u8 (v : Nat))
theorem Bys.next {w w' : World} {a : Option Addr} {n : Nat} (h : Bys w a n) (hb : Below w.heap.size w w') : Bys w' a n := by
  rcases h with h | ⟨b, off, e, h⟩
  · exact .inl h
  · exact .inr ⟨b, off, e, fun i hi => by obtain ⟨v, h1, h2⟩ := h i hi; exact ⟨v, h1, cellB hb h2⟩⟩
theorem own_fr {w : World} {base n size g cap : Nat} {e : TypeId} {xs : List Value} (h : w.ownsRow base e size (.slice (some ⟨g, 0, none⟩) n cap) n xs) : ∀ i, w.frozen? ⟨g, i, none⟩ = false := by
  rcases h.2 with ⟨h1, _⟩ | ⟨g', cap', cur, h1, hg, hh, _⟩
  · cases h1
  · cases h1
    exact fun i => Blk.fr (t := e) (cs := cur) hh i
set_option maxRecDepth 100000 in
set_option maxHeartbeats 4000000 in
theorem toggles_good (a b : Nat) (g : Nat → Nat) (ad : Option Addr) (c : Nat) (ao : Option Addr) (on oc : Nat) (w : World) (hs : IsS a b g) (hI : Ints w ad (stL a g)) (hO : Bys w ao on) (hon : on ≤ 100) :
    Calls Try.prog 8 #[.int .i64 (a : Int), .int .i64 (b : Int), .slice ad a c, .slice ao on oc] w (Ret (.bool true) w) := by
  have ha1 := hs.p.a1
  have ha6 := hs.p.a6
  have hb1 := hs.p.b1
  have hb6 := hs.p.b6
  obtain ⟨i0, hi, hz0, hz1, hz2⟩ := info_parts infoPair
  have G0 := Lib.hid hi
  have G1 := Lib.hid hz0
  have G2 := Lib.hid hz1
  have G3 := Lib.hid hz2
  clear hi hz0 hz1 hz2
  have hG := good_yes a b g ad c w hs hI
  have hd20 : decide ((20 : Int) < (a : Int)) = false := decide_eq_false (by omega)
  have hd100 : decide ((100 : Int) < (on : Int)) = false := decide_eq_false (by omega)
  have hl20 : (a : Int) ≤ 20 := by omega
  have hl100 : (on : Int) ≤ 100 := by omega
  have hnx := Lib.hid (fun (n : Nat) (M P : List (Nat × Nat)) hM hP => tns_next (a := a) (b := b) (n := n) (g := g) (M := M) (P := P) hM hP)
  have hz0 := Lib.hid (fun d => dgN_zero b d)
  have hyes := Lib.hid (fun i d => @dgN_yes i b d)
  have hno := Lib.hid (fun i d => @dgN_no i b d)
  have hlen := Lib.hid (fun i d => dgN_len i b d)
  replace hI := Lib.hid hI
  replace hO := Lib.hid hO
  replace hs := Lib.hid hs
  go_enter Try.func8, Try.ntmps8
  go_wp2_with (go_at_call 40; refine hG.mono ?_; rintro _ w1 ⟨rfl, hw1⟩)
  replace hI := Lib.hid (hI.out.next hw1)
  replace hO := Lib.hid (hO.out.next hw1)
  replace hw1 := Lib.hid hw1
  clear hG
  go_loopw [9, 10, 11] (fun v z q wr => ∃ n : Nat, ∃ y zz : Int, ∃ M : List (Nat × Nat), n ≤ a + b - 1 ∧ q = .int .i64 y ∧ y = (a : Int) + (b : Int) - 2 - (n : Int) ∧ z = .int .i64 zz ∧ 0 ≤ zz ∧ zz ≤ 6 * (n : Int) ∧ wr.ownsRow w1.heap.size 31 2 v M.length (cQ M) ∧ Hid (tnsF a b g (M.map zP) = tnsF a b g ((alN a b n).map zP)) ∧ Hid (∀ p ∈ M, p.1 < a ∧ p.2 < b) ∧ M.length ≤ 6 * n ∧ Below w1.heap.size w1 wr) (fun _ _ q _ => (intOf q + 1).toNat)
  case atStart => exact ⟨0, _, 0, [], Nat.zero_le _, rfl, by omega, rfl, by omega, by omega, World.ownsRow_nil _ _ _ _, Lib.hid rfl, Lib.hid (fun p hp => by simp at hp), Nat.zero_le _, Below.refl _ _⟩
  case round =>
    obtain ⟨n, y, zz, M, hn, rfl, hy, rfl, hz1, hz2, hM, hT, hin, hMl, B⟩ := hrel
    obtain ⟨av, cv, rfl, hcv⟩ := own_slice' hM
    replace hM := Lib.hid hM
    replace B := Lib.hid B
    by_cases hlt : n < a + b - 1
    · obtain ⟨D, rfl⟩ : ∃ D : Nat, y = (D : Int) := ⟨y.toNat, by omega⟩
      have hD : Hid (a + b - 2 - n = D) := Lib.hid (by omega)
      have hDb : D ≤ 10 := by omega
      replace hy := Lib.hid hy
      have hMb : M.length ≤ 100 := by omega
      go_wp2
      go_loopw [12, 13] (fun v q wq => ∃ i : Nat, i ≤ a ∧ q = .int .i64 (i : Int) ∧ wq.ownsRow w1.heap.size 31 2 v (dgN i b D).length (cQ (dgN i b D)) ∧ wq.ownsRow w1.heap.size 31 2 (.slice av M.length cv) M.length (cQ M) ∧ Apart (.slice av M.length cv) v ∧ Below w1.heap.size w1 wq) (fun _ q _ => a - (intOf q).toNat)
      case atStart => exact ⟨0, Nat.zero_le _, rfl, by rw [hz0.out]; exact World.ownsRow_nil _ _ _ _, hM.out, fun q _ h => (by cases h), B.out⟩
      case round =>
        clear hM B
        obtain ⟨i, hi, rfl, hown, hM, hap, B⟩ := hrel
        obtain ⟨rv, rc, rfl, hrc⟩ := own_slice' hown
        have hsz := B.size
        replace hown := Lib.hid hown
        replace hM := Lib.hid hM
        replace hap := Lib.hid hap
        replace B := Lib.hid B
        by_cases hia : i < a
        · have hia' : (i : Int) < (a : Int) := by omega
          have hlen1 := hlen.out i D
          by_cases hh : i ≤ D ∧ D < i + b
          · have e := Lib.hid (hyes.out i D hh)
            have eJ : (D : Int) - (i : Int) = ((D - i : Nat) : Int) := by omega
            have c1 : (0 : Int) ≤ (D : Int) - (i : Int) := by omega
            have c2 : (D : Int) - (i : Int) < (b : Int) := by omega
            have j1 : (0 : Int) ≤ ((D - i : Nat) : Int) := by omega
            have j2 : ((D - i : Nat) : Int) < (b : Int) := by omega
            have hc2 := Lib.hid (cell_two_pair wr (i : Int) ((D - i : Nat) : Int) 31)
            have o1 := Lib.hid (hown.out.alloc (.cells #[.int .i64 (i : Int), .int .i64 ((D - i : Nat) : Int)] 31))
            have o2 := Lib.hid (hM.out.alloc (.cells #[.int .i64 (i : Int), .int .i64 ((D - i : Nat) : Int)] 31))
            obtain ⟨N, hNN⟩ : ∃ N, Hid ((dgN i b D).length = N) := ⟨_, Lib.hid rfl⟩
            rw [hNN.out] at hlen1 o1 hrc hap ⊢
            generalize D - i = J at *
            clear c1 c2
            go_wp2_with (at_builtin; refine wpList_append_own_at _ rfl _ _ 32 rfl w1.heap.size 31 i0 (.agg #[.int .i64 0, .int .i64 0]) 2 16 Try.underlying32 G0.out G1.out G2.out G3.out rfl (by decide) _ _ _ rfl o1.out ⟨_, 0, none⟩ 1 1 [.int .i64 (i : Int), .int .i64 (J : Int)] rfl rfl hc2.out (by simp [Value.oneCell']) (by unfold maxLen; omega) (by omega) (by simp; omega) ?_; intro v' w6 hown6 hgrow _ hblk; have B6 := Lib.hid ((B.out.alloc hsz (.cells #[.int .i64 (i : Int), .int .i64 (J : Int)] 31)).grown hgrow (by simp; omega) (fun q hq => by have := (o1.out.lt q hq).1; omega)); replace hown6 := Lib.hid hown6; have m2 := Lib.hid (own_keepQ o2.out hgrow (fun q h1 h2 => hap.out q h1 h2)); have hap6 := Lib.hid ((hap.out.symm.first hblk (fun q h => (o2.out.lt q h).2)).symm))
            go_roundw
            case rel => exact ⟨i + 1, by omega, by go_num, by rw [e.out, List.length_append, hNN.out, cQ_snoc]; exact hown6.out, m2.out, hap6.out, B6.out⟩
            case measure => simp [intOf]; omega
          · have e := Lib.hid (hno.out i D hh)
            by_cases c1 : (D : Int) - (i : Int) < 0
            · go_wp2
              go_roundw
              case rel => exact ⟨i + 1, by omega, by go_num, by rw [e.out]; exact hown.out, hM.out, hap.out, B.out⟩
              case measure => simp [intOf]; omega
            · have c1' : (0 : Int) ≤ (D : Int) - (i : Int) := by omega
              have c2 : (b : Int) ≤ (D : Int) - (i : Int) := by omega
              go_wp2
              go_roundw
              case rel => exact ⟨i + 1, by omega, by go_num, by rw [e.out]; exact hown.out, hM.out, hap.out, B.out⟩
              case measure => simp [intOf]; omega
        · have hia' : (a : Int) ≤ (i : Int) := by omega
          have ei : i = a := by omega
          rw [ei] at hown hap hrc ⊢
          have hlen1 := hlen.out a D
          have hpos := dgN_pos (a := a) (b := b) (d := D) ha1 hb1 (by have := hD.out; omega)
          obtain ⟨P0, hP0⟩ : ∃ P, Hid (dgN a b D = P) := ⟨_, Lib.hid rfl⟩
          rw [hP0.out] at hown hap hrc hlen1 hpos ⊢
          obtain ⟨N, hNN⟩ : ∃ N, Hid (P0.length = N) := ⟨_, Lib.hid rfl⟩
          rw [hNN.out] at hown hap hrc hlen1 hpos ⊢
          obtain ⟨gr, cr, eg⟩ := own_pos hown.out hpos
          cases eg
          have hP1 : Hid (P0.Perm P0) := Lib.hid (List.Perm.refl _)
          clear hia hia' hi ei
          go_wp2
          go_loopw [10, 14] (fun z q wq => ∃ j : Nat, ∃ P, ∃ z1 : Int, j ≤ N ∧ q = .int .i64 (j : Int) ∧ z = .int .i64 z1 ∧ 0 ≤ z1 ∧ z1 ≤ zz + (j : Int) ∧ Hid (P.Perm P0) ∧ wq.ownsRow w1.heap.size 31 2 (.slice (some ⟨gr, 0, none⟩) N rc) N (cQ P) ∧ wq.ownsRow w1.heap.size 31 2 (.slice av M.length cv) M.length (cQ M) ∧ Below w1.heap.size w1 wq) (fun _ q _ => N - (intOf q).toNat)
          case atStart => exact ⟨0, P0, zz, Nat.zero_le _, rfl, rfl, hz1, by omega, hP1, hown.out, hM.out, B.out⟩
          case round =>
            clear hown hM B hP1
            obtain ⟨j, P, z1, hj, rfl, rfl, hz3, hz4, hPm, hown, hM, B⟩ := hrel
            have hsz := B.size
            have hPl : P.length = N := by rw [hPm.out.length_eq]; exact hNN.out
            by_cases hjN : j < N
            · have hjN' : (j : Int) < (N : Int) := by omega
              have hfr := own_fr hown
              have hgl := (hown.lt gr rfl)
              obtain ⟨q0, q1⟩ := cQ_at P j (by omega)
              have x0 : wr.cell? ⟨gr, j * 2, none⟩ = some (.int .i64 ((nth2 P j).1 : Int)) := by rw [hown.cellAt (j * 2) (by omega)]; exact q0
              have x1 : wr.cell? ⟨gr, j * 2 + 1, none⟩ = some (.int .i64 ((nth2 P j).2 : Int)) := by rw [hown.cellAt (j * 2 + 1) (by omega)]; exact q1
              clear q0 q1
              by_cases hzo : z1 < (on : Int)
              · obtain ⟨Z, rfl⟩ : ∃ Z : Nat, z1 = (Z : Int) := ⟨z1.toNat, by omega⟩
                rcases hO.out.next B with h0 | ⟨bo, off, eo, hv⟩
                · omega
                obtain ⟨v, hv1, hv2⟩ := hv Z (by omega)
                replace hv := Lib.hid hv
                subst eo
                have hR : v % (N - j) < N - j := Nat.mod_lt _ (by omega)
                have eR : (v : Int).tmod ((N : Int) - (j : Int)) = ((v % (N - j) : Nat) : Int) := by rw [show (N : Int) - (j : Int) = ((N - j : Nat) : Int) by omega, Int.ofNat_tmod]
                have hz0' : ¬ ((N : Int) - (j : Int) = 0) := by omega
                generalize v % (N - j) = R at *
                obtain ⟨K, hK⟩ : ∃ K, Hid (j + R = K) := ⟨_, Lib.hid rfl⟩
                have eK : (j : Int) + (R : Int) = (K : Int) := by have := hK.out; omega
                have hKN : K < N := by omega
                have hKN' : (K : Int) < (N : Int) := by omega
                have hj0 : (0 : Int) ≤ (j : Int) := by omega
                go_upto_region 22 with (fail)
                have k3 := Blk.new wr 31 (qC ((nth2 P j).1 : Int) ((nth2 P j).2 : Int))
                have hownW := hown.alloc (.cells (qC ((nth2 P j).1 : Int) ((nth2 P j).2 : Int)) 31)
                have hMW := hM.alloc (.cells (qC ((nth2 P j).1 : Int) ((nth2 P j).2 : Int)) 31)
                have BW := B.alloc hsz (.cells (qC ((nth2 P j).1 : Int) ((nth2 P j).2 : Int)) 31)
                have hXg : gr ≠ wr.heap.size := by have := hgl.2; omega
                have hgb := hgl.1
                have hneM : (Value.slice av M.length cv).ownBlock ≠ some gr := fun e => hap.out gr e rfl
                have q0 : (cQ P)[j * 2]? = some (Value.int .i64 ((nth2 P j).1 : Int)) := (cQ_at P j (by omega)).1
                have q1 : (cQ P)[j * 2 + 1]? = some (Value.int .i64 ((nth2 P j).2 : Int)) := (cQ_at P j (by omega)).2
                have r0 : (cQ P)[K * 2]? = some (Value.int .i64 ((nth2 P K).1 : Int)) := (cQ_at P K (by omega)).1
                have r1 : (cQ P)[K * 2 + 1]? = some (Value.int .i64 ((nth2 P K).2 : Int)) := (cQ_at P K (by omega)).2
                clear x0 x1 hfr hown hM B
                have x0 := (hownW.cellAt (j * 2) (by omega)).trans q0
                have x1 := (hownW.cellAt (j * 2 + 1) (by omega)).trans q1
                have y0 := (hownW.cellAt (K * 2) (by omega)).trans r0
                have y1 := (hownW.cellAt (K * 2 + 1) (by omega)).trans r1
                have f0 := own_fr hownW
                clear q0 q1 r0 r1
                have hown2 := own_setX (j := j * 2 + 1) (own_setX (j := j * 2) hownW (.int .i64 ((nth2 P K).1 : Int))) (.int .i64 ((nth2 P K).2 : Int))
                rw [← cQ_set P j (nth2 P K)] at hown2
                have hM2 := ownsRow_setCell_other (a := ⟨gr, j * 2 + 1, none⟩) (ownsRow_setCell_other (a := ⟨gr, j * 2, none⟩) hMW hneM (.int .i64 ((nth2 P K).1 : Int))) hneM (.int .i64 ((nth2 P K).2 : Int))
                have B2 := (BW.setCell (p := ⟨gr, j * 2, none⟩) hgb (.int .i64 ((nth2 P K).1 : Int))).setCell (p := ⟨gr, j * 2 + 1, none⟩) hgb (.int .i64 ((nth2 P K).2 : Int))
                have k32 := (k3.other (B' := gr) (i := j * 2) (by omega) (.int .i64 ((nth2 P K).1 : Int))).other (B' := gr) (i := j * 2 + 1) (by omega) (.int .i64 ((nth2 P K).2 : Int))
                replace hown2 := Lib.hid hown2
                replace hM2 := Lib.hid hM2
                replace B2 := Lib.hid B2
                replace k32 := Lib.hid k32
                replace hgl := Lib.hid hgl
                clear hownW hMW BW k3
                generalize hWW : wr.alloc (.cells (qC ((nth2 P j).1 : Int) ((nth2 P j).2 : Int)) 31) = W at *
                clear hWW
                generalize wr.heap.size = X at *
                go_upto_region 23 with (fail)
                have hl2 : (P.set j (nth2 P K)).length = N := by rw [List.length_set]; exact hPl
                clear x0 x1 y0 y1 f0
                obtain ⟨p0, p1⟩ := k32.out.qc
                have r0 : (cQ (P.set j (nth2 P K)))[K * 2]? = some (Value.int .i64 ((nth2 (P.set j (nth2 P K)) K).1 : Int)) := (cQ_at _ K (by omega)).1
                have r1 : (cQ (P.set j (nth2 P K)))[K * 2 + 1]? = some (Value.int .i64 ((nth2 (P.set j (nth2 P K)) K).2 : Int)) := (cQ_at _ K (by omega)).2
                have x0 := (hown2.out.cellAt (K * 2) (by omega)).trans r0
                have x1 := (hown2.out.cellAt (K * 2 + 1) (by omega)).trans r1
                have f0 := own_fr hown2.out
                clear r0 r1
                have hown3 := own_setX (j := K * 2 + 1) (own_setX (j := K * 2) hown2.out (.int .i64 ((nth2 P j).1 : Int))) (.int .i64 ((nth2 P j).2 : Int))
                rw [← cQ_set (P.set j (nth2 P K)) (K) (nth2 P j)] at hown3
                have hM3 := ownsRow_setCell_other (a := ⟨gr, K * 2 + 1, none⟩) (ownsRow_setCell_other (a := ⟨gr, K * 2, none⟩) hM2.out hneM (.int .i64 ((nth2 P j).1 : Int))) hneM (.int .i64 ((nth2 P j).2 : Int))
                have B3 := (B2.out.setCell (p := ⟨gr, K * 2, none⟩) hgb (.int .i64 ((nth2 P j).1 : Int))).setCell (p := ⟨gr, K * 2 + 1, none⟩) hgb (.int .i64 ((nth2 P j).2 : Int))
                have hPm3 : Hid ((swp P j (K)).Perm P0) := Lib.hid ((swp_perm (by omega) (by omega)).trans hPm.out)
                replace hown3 := Lib.hid hown3
                replace hM3 := Lib.hid hM3
                replace B3 := Lib.hid B3
                clear hown2 hM2 B2 k32
                generalize (W.setCell ⟨gr, j * 2, none⟩ (.int .i64 ((nth2 P K).1 : Int))).setCell ⟨gr, j * 2 + 1, none⟩ (.int .i64 ((nth2 P K).2 : Int)) = W2 at *
                go_wp2
                go_roundw
                case rel => exact ⟨j + 1, swp P j (K), _, by omega, by go_num, rfl, by omega, by omega, hPm3, hown3.out, hM3.out, B3.out⟩
                case measure => simp [intOf]; omega
              · have hzo' : (on : Int) ≤ z1 := by omega
                have hKN : j < N := by omega
                have hKN' : (j : Int) < (N : Int) := by omega
                have hj0 : (0 : Int) ≤ (j : Int) := by omega
                go_upto_region 22 with (fail)
                have k3 := Blk.new wr 31 (qC ((nth2 P j).1 : Int) ((nth2 P j).2 : Int))
                have hownW := hown.alloc (.cells (qC ((nth2 P j).1 : Int) ((nth2 P j).2 : Int)) 31)
                have hMW := hM.alloc (.cells (qC ((nth2 P j).1 : Int) ((nth2 P j).2 : Int)) 31)
                have BW := B.alloc hsz (.cells (qC ((nth2 P j).1 : Int) ((nth2 P j).2 : Int)) 31)
                have hXg : gr ≠ wr.heap.size := by have := hgl.2; omega
                have hgb := hgl.1
                have hneM : (Value.slice av M.length cv).ownBlock ≠ some gr := fun e => hap.out gr e rfl
                have q0 : (cQ P)[j * 2]? = some (Value.int .i64 ((nth2 P j).1 : Int)) := (cQ_at P j (by omega)).1
                have q1 : (cQ P)[j * 2 + 1]? = some (Value.int .i64 ((nth2 P j).2 : Int)) := (cQ_at P j (by omega)).2
                have r0 : (cQ P)[j * 2]? = some (Value.int .i64 ((nth2 P j).1 : Int)) := (cQ_at P j (by omega)).1
                have r1 : (cQ P)[j * 2 + 1]? = some (Value.int .i64 ((nth2 P j).2 : Int)) := (cQ_at P j (by omega)).2
                clear x0 x1 hfr hown hM B
                have x0 := (hownW.cellAt (j * 2) (by omega)).trans q0
                have x1 := (hownW.cellAt (j * 2 + 1) (by omega)).trans q1
                have y0 := (hownW.cellAt (j * 2) (by omega)).trans r0
                have y1 := (hownW.cellAt (j * 2 + 1) (by omega)).trans r1
                have f0 := own_fr hownW
                clear q0 q1 r0 r1
                have hown2 := own_setX (j := j * 2 + 1) (own_setX (j := j * 2) hownW (.int .i64 ((nth2 P j).1 : Int))) (.int .i64 ((nth2 P j).2 : Int))
                rw [← cQ_set P j (nth2 P j)] at hown2
                have hM2 := ownsRow_setCell_other (a := ⟨gr, j * 2 + 1, none⟩) (ownsRow_setCell_other (a := ⟨gr, j * 2, none⟩) hMW hneM (.int .i64 ((nth2 P j).1 : Int))) hneM (.int .i64 ((nth2 P j).2 : Int))
                have B2 := (BW.setCell (p := ⟨gr, j * 2, none⟩) hgb (.int .i64 ((nth2 P j).1 : Int))).setCell (p := ⟨gr, j * 2 + 1, none⟩) hgb (.int .i64 ((nth2 P j).2 : Int))
                have k32 := (k3.other (B' := gr) (i := j * 2) (by omega) (.int .i64 ((nth2 P j).1 : Int))).other (B' := gr) (i := j * 2 + 1) (by omega) (.int .i64 ((nth2 P j).2 : Int))
                replace hown2 := Lib.hid hown2
                replace hM2 := Lib.hid hM2
                replace B2 := Lib.hid B2
                replace k32 := Lib.hid k32
                replace hgl := Lib.hid hgl
                clear hownW hMW BW k3
                generalize hWW : wr.alloc (.cells (qC ((nth2 P j).1 : Int) ((nth2 P j).2 : Int)) 31) = W at *
                clear hWW
                generalize wr.heap.size = X at *
                go_upto_region 23 with (fail)
                have hl2 : (P.set j (nth2 P j)).length = N := by rw [List.length_set]; exact hPl
                clear x0 x1 y0 y1 f0
                obtain ⟨p0, p1⟩ := k32.out.qc
                have r0 : (cQ (P.set j (nth2 P j)))[j * 2]? = some (Value.int .i64 ((nth2 (P.set j (nth2 P j)) j).1 : Int)) := (cQ_at _ j (by omega)).1
                have r1 : (cQ (P.set j (nth2 P j)))[j * 2 + 1]? = some (Value.int .i64 ((nth2 (P.set j (nth2 P j)) j).2 : Int)) := (cQ_at _ j (by omega)).2
                have x0 := (hown2.out.cellAt (j * 2) (by omega)).trans r0
                have x1 := (hown2.out.cellAt (j * 2 + 1) (by omega)).trans r1
                have f0 := own_fr hown2.out
                clear r0 r1
                have hown3 := own_setX (j := j * 2 + 1) (own_setX (j := j * 2) hown2.out (.int .i64 ((nth2 P j).1 : Int))) (.int .i64 ((nth2 P j).2 : Int))
                rw [← cQ_set (P.set j (nth2 P j)) (j) (nth2 P j)] at hown3
                have hM3 := ownsRow_setCell_other (a := ⟨gr, j * 2 + 1, none⟩) (ownsRow_setCell_other (a := ⟨gr, j * 2, none⟩) hM2.out hneM (.int .i64 ((nth2 P j).1 : Int))) hneM (.int .i64 ((nth2 P j).2 : Int))
                have B3 := (B2.out.setCell (p := ⟨gr, j * 2, none⟩) hgb (.int .i64 ((nth2 P j).1 : Int))).setCell (p := ⟨gr, j * 2 + 1, none⟩) hgb (.int .i64 ((nth2 P j).2 : Int))
                have hPm3 : Hid ((swp P j (j)).Perm P0) := Lib.hid ((swp_perm (by omega) (by omega)).trans hPm.out)
                replace hown3 := Lib.hid hown3
                replace hM3 := Lib.hid hM3
                replace B3 := Lib.hid B3
                clear hown2 hM2 B2 k32
                generalize (W.setCell ⟨gr, j * 2, none⟩ (.int .i64 ((nth2 P j).1 : Int))).setCell ⟨gr, j * 2 + 1, none⟩ (.int .i64 ((nth2 P j).2 : Int)) = W2 at *
                go_wp2
                go_roundw
                case rel => exact ⟨j + 1, swp P j (j), _, by omega, by go_num, rfl, by omega, by omega, hPm3, hown3.out, hM3.out, B3.out⟩
                case measure => simp [intOf]; omega
            · have hjN' : (N : Int) ≤ (j : Int) := by omega
              have hnews := Lib.hid (hown.cells (g := gr) rfl)
              have hcl := Lib.hid (cQ_length P)
              have hone := Lib.hid (cQ_one P)
              have hT2 := Lib.hid (hnx.out n M P hT.out (by rw [hD.out, hP0.out]; exact hPm.out))
              have hin2 : Hid (∀ p ∈ M ++ P, p.1 < a ∧ p.2 < b) := Lib.hid (fun p hp => by
                rcases List.mem_append.1 hp with h | h
                · exact hin.out p h
                · have h2 := hPm.out.subset h
                  rw [← hP0.out] at h2
                  exact ⟨(dgN_in h2).1, (dgN_in h2).2.1⟩)
              have hapd := Lib.hid (cQ_app M P)
              replace hM := Lib.hid hM
              replace B := Lib.hid B
              clear hown
              go_wp2_with (at_builtin; refine wpList_append_own _ rfl _ _ 32 rfl w1.heap.size 31 i0 (.agg #[.int .i64 0, .int .i64 0]) 2 16 Try.underlying32 G0.out G1.out G2.out G3.out rfl (by decide) _ _ _ rfl hM.out ⟨gr, 0, none⟩ N rc (cQ P) rfl (by rw [hcl.out, hPl]) hnews.out hone.out (by unfold maxLen; omega) (by omega) hsz ?_; intro v' w6 hown6 hgrow _; have B6 := Lib.hid (B.out.grown hgrow hsz (fun q hq => (hM.out.lt q hq).1)); replace hown6 := Lib.hid hown6; clear hgrow)
              go_roundw
              case rel => exact ⟨n + 1, (D : Int) - 1, z1, M ++ P, by omega, rfl, by have := hy.out; omega, rfl, by omega, by omega, by rw [List.length_append, hPl, hapd.out]; exact hown6.out, hT2, hin2, by rw [List.length_append]; omega, B6.out⟩
              case measure => simp [intOf]
    · have hy0 : y < 0 := by omega
      have en : Hid (n = a + b - 1) := Lib.hid (by omega)
      obtain ⟨a', c', e, hPr⟩ := ownQ hM.out
      cases e
      have hTn : Hid (dayF a b g = tnsF a b g (zQ M)) := Lib.hid (by
        have h := hT.out
        rw [en.out, day_turns hs.out] at h
        exact h.symm)
      have hDy := Lib.hid (fun ad c w h => (Day_yes a b g ad c w hs.out h).mono fun _ _ k => k.gotS)
      have hTu := Lib.hid (fun ad ap c cp w h1 h2 => (Turns_yes a b g (zQ M) ad ap c M.length cp w hs.out h1 h2 (zQ_len M) (by omega) (has_zQ hin.out)).mono fun _ _ k => k.gotS)
      have hSs := dayF_S hs.out
      have hSm := Lib.hid (fun ad ad' c c' w h1 h2 => same_eq ad ad' a c c' (dayF a b g) (tnsF a b g (zQ M)) w ha6 h1 h2 hTn.out)
      have hIS := Lib.hid (fun ad c w h => IsState_yes a b (dayF a b g) ad c w hSs h)
      have hI2 := Lib.hid (hI.out.next B.out)
      replace hPr := Lib.hid hPr
      have B2 := Lib.hid (nextB hw1.out B.out)
      replace hSs := Lib.hid hSs
      clear hy hlt hMl hz1 hz2 hn hT hin hI hO
      go_wp2_with (first
        | (go_at_call 16; (with_reducible refine (hDy.out _ _ _ hI2.out).mono ?_); rintro _ w2 ⟨x1, z2, rfl, hx1, hb⟩; replace hI2 := Lib.hid (hI2.out.next hb); replace hPr := Lib.hid (hPr.out.next hb); replace hx1 := Lib.hid hx1; replace B2 := Lib.hid (nextB B2.out hb); clear hb)
        | (go_at_call 25; (with_reducible refine (hTu.out _ _ _ _ _ hI2.out hPr.out).mono ?_); rintro _ w3 ⟨y1, u1, rfl, hy1, hb⟩; replace hx1 := Lib.hid (hx1.out.next hb); replace hy1 := Lib.hid hy1; replace B2 := Lib.hid (nextB B2.out hb); clear hb)
        | (go_at_call 18; (with_reducible refine (hSm.out _ _ _ _ _ hx1.out hy1.out).mono ?_); rintro _ w4 ⟨rfl, hb⟩; replace hx1 := Lib.hid (hx1.out.next hb); clear hy1; replace B2 := Lib.hid (nextB B2.out hb); clear hb)
        | (go_at_call 41; (with_reducible refine (hIS.out _ _ _ hx1.out).mono ?_); rintro _ w5 ⟨rfl, hb⟩; replace B2 := Lib.hid (nextB B2.out hb); clear hb)
        | (go_at_call 15; refine (alive_any _).mono ?_; rintro _ w6 ⟨rfl, hw6⟩))
      go_ret
      exact ⟨rfl, nextB B2.out hw6⟩
set_option maxRecDepth 100000 in
theorem toggles_law (a b : Int) (ad : Option Addr) (n c : Nat) (xs : List Int) (ao : Option Addr) (on oc : Nat) (w : World) (hI : Ints w ad xs) (hl : xs.length = n) (_hc : n ≤ c) (_hn : ad = none → c = 0) (hO : Bys w ao on) :
    Calls Try.prog 8 #[.int .i64 a, .int .i64 b, .slice ad n c, .slice ao on oc] w (Ret (.bool true) w) := by
  clear _hc _hn
  by_cases hlen : 20 < n
  · have hlen' : (20 : Int) < (n : Int) := by omega
    clear hI hl hO
    go_enter Try.func8, Try.ntmps8
    go_wp2_with (go_at_call 15; refine (alive_any _).mono ?_; rintro _ w1 ⟨rfl, hw1⟩)
    go_ret
    exact Ret.mk rfl hw1
  · have hlen' : (n : Int) ≤ 20 := by omega
    by_cases hon : 100 < on
    · have hon' : (100 : Int) < (on : Int) := by omega
      clear hI hl hO
      go_enter Try.func8, Try.ntmps8
      go_wp2_with (go_at_call 15; refine (alive_any _).mono ?_; rintro _ w1 ⟨rfl, hw1⟩)
      go_ret
      exact Ret.mk rfl hw1
    · by_cases hS : StP a b xs
      · obtain ⟨A, B, rfl, rfl, hS2, hx⟩ := hS.parts
        clear hS
        generalize gX xs = g at *
        subst hx
        rw [stL_len] at hl
        subst hl
        exact toggles_good A B g ad c ao on oc w hS2 hI hO (by omega)
      · have hon' : (on : Int) ≤ 100 := by omega
        have hG := good_no a b xs ad n c w hI hl (by omega) hS
        clear hI hl hS hO
        go_enter Try.func8, Try.ntmps8
        go_wp2_with (first | (go_at_call 40; refine hG.mono ?_; rintro _ w2 ⟨rfl, hw2⟩) | (go_at_call 15; refine (alive_any _).mono ?_; rintro _ w1 ⟨rfl, hw1⟩))
        go_ret
        exact Ret.mk rfl (nextB hw2 hw1)
end Go.Proofs.Ytniknldeafmgaaa
