/- Layer 2: a list of numbers becomes lines, ear by ear: the program's walk. -/
import Derived.Test.YtflbaadfbjpakaaBx
namespace Go.Proofs.Ytflbaadfbjpakaa
open Go Go.RowKit

/-- A slice's length. -/
def sliceLen : Value → Nat | .slice _ n _ => n | _ => 0
/-- Two rows of the call's own, of elements of two types, lie in two blocks. -/
theorem own_apart {w : World} {base base' g n cap n' size size' : Nat} {e e' : TypeId} {v : Value} {xs ys : List Value} (h : w.ownsRow base e size (.slice (some ⟨g, 0, none⟩) n cap) n xs) (h' : w.ownsRow base' e' size' v n' ys) (he : e ≠ e') : v.ownBlock ≠ some g := by
  intro hv
  rcases h'.2 with ⟨rfl, _⟩ | ⟨g', cap', cur', rfl, _, hg', _⟩
  · simp [Value.ownBlock] at hv
  · simp [Value.ownBlock] at hv
    subst hv
    rcases h.2 with ⟨h1, _⟩ | ⟨g2, cap2, cur2, h1, _, hg2, _⟩
    · simp at h1
    · simp only [Value.slice.injEq, Option.some.injEq, Addr.mk.injEq, and_true, true_and] at h1
      obtain ⟨rfl, rfl⟩ := h1
      rw [hg'] at hg2
      simp only [Option.some.injEq, Obj.cells.injEq] at hg2
      exact he hg2.2.1.symm
theorem own_pos {w : World} {base n size : Nat} {e : TypeId} {v : Value} {xs : List Value} (h : w.ownsRow base e size v n xs) (hn : 0 < n) : ∃ g cap, v = .slice (some ⟨g, 0, none⟩) n cap := by
  rcases h.2 with ⟨_, h2⟩ | ⟨g, cap, cur, hv, _⟩
  · omega
  · exact ⟨g, cap, hv⟩
/-- The cell of a block that has just been laid. -/
theorem cell_one_new (w : World) (a : Int) (t : TypeId) : ∀ j u, [Value.int .i64 a][j]? = some u → (w.alloc (.cells #[.int .i64 a] t)).cell? (Addr.add ⟨w.heap.size, 0, none⟩ j) = some u := by
  intro j u hj
  have hl : j < 1 := (List.getElem?_eq_some_iff.1 hj).1
  have ha : Addr.add ⟨w.heap.size, 0, none⟩ j = ⟨w.heap.size, j, none⟩ := by first | (simp [Addr.add]; done) | (simp [Addr.add]; omega)
  rw [ha]
  exact (Blk.new w t _).c j (by rw [← hj]; simp)
theorem cell_two_new (w : World) (a b : Int) (t : TypeId) : ∀ j u, [Value.int .i64 a, .int .i64 b][j]? = some u → (w.alloc (.cells #[.int .i64 a, .int .i64 b] t)).cell? (Addr.add ⟨w.heap.size, 0, none⟩ j) = some u := by
  intro j u hj
  have hl : j < 2 := (List.getElem?_eq_some_iff.1 hj).1
  have ha : Addr.add ⟨w.heap.size, 0, none⟩ j = ⟨w.heap.size, j, none⟩ := by first | (simp [Addr.add]; done) | (simp [Addr.add]; omega)
  rw [ha]
  exact (Blk.new w t _).c j (by rw [← hj]; simp)
/-- What linesOf returns. -/
def LinesOf (xs : List Int) (w : World) (e : Ending) (w' : World) : Prop :=
  Below w.heap.size w w' ∧ ((runE 13 xs (upTo xs.length) [] = none ∧ e = .returned (.tuple #[.slice none 0 0, .bool false])) ∨
    ∃ R S a cap, runE 13 xs (upTo xs.length) [] = some (R, S) ∧ e = .returned (.tuple #[.slice a S.length cap, .bool (maxL R == 1)]) ∧
      w'.ownsRow w.heap.size 60 2 (.slice a S.length cap) S.length (cP (sortL S)) ∧ Prs w' a (sortL S) ∧ S.length ≤ cap)
set_option maxRecDepth 100000 in
set_option maxHeartbeats 4000000 in
theorem linesOf_any (b off n cp : Nat) (xs : List Int) (w : World) (hl : xs.length = n) (h3 : 3 ≤ n) (h12 : n ≤ 12) (ht : Tame xs)
    (hc : ∀ i, i < n → w.cell? ⟨b, off + i, none⟩ = some (.int .i64 (nth xs i))) :
    Calls Try.prog 55 #[.slice (some ⟨b, off, none⟩) n cp] w (LinesOf xs w) := by
  obtain ⟨i0, hi, hz0, hz1, hz2⟩ := info_parts infoInt
  have G0 := Lib.hid hi
  have G1 := Lib.hid hz0
  have G2 := Lib.hid hz1
  have G3 := Lib.hid hz2
  clear hi hz0 hz1 hz2
  obtain ⟨j0, hi, hz0, hz1, hz2⟩ := info_parts infoPair
  have P0 := Lib.hid hi
  have P1 := Lib.hid hz0
  have P2 := Lib.hid hz1
  have P3 := Lib.hid hz2
  clear hi hz0 hz1 hz2
  have hb : b < w.heap.size := block_lt_of_cell (hc 0 (by omega))
  replace hc := Lib.hid hc
  replace ht := Lib.hid ht
  have hrun : Hid (runE 13 xs (upTo xs.length) [] = runE 13 xs (upTo n) []) := by subst hl; exact Lib.hid rfl
  replace hl := Lib.hid hl
  go_enter Try.func55, Try.ntmps55
  go_wp2
  go_loopw [4, 11] (fun v i wr => ∃ k : Nat, k ≤ n ∧ i = .int .i64 k ∧ wr.ownsRow w.heap.size 3 1 v k (lI (upTo k)) ∧ Below w.heap.size w wr) (fun _ i _ => n - (intOf i).toNat)
  case atStart => exact ⟨0, by omega, rfl, World.ownsRow_nil _ _ _ _, Below.refl _ _⟩
  case round =>
    obtain ⟨k, hk, rfl, hown, B0⟩ := hrel
    by_cases hlt : k < n
    · have hi0 : (k : Int) < (n : Int) := by omega
      go_wp2_with (at_builtin; refine wpList_append_own _ rfl _ _ 30 rfl w.heap.size 3 i0 (.int .i64 0) 1 8 Try.underlying30 G0.out G1.out G2.out G3.out rfl (by decide) _ _ _ rfl (hown.alloc _) ⟨_, 0, none⟩ 1 1 [.int .i64 (k : Int)] rfl rfl (cell_one_new _ _ _) (by simp [Value.oneCell']) (by unfold maxLen; omega) (by omega) (by have := B0.size; simp; omega) ?_; intro v' w2 hown2 hgrow _)
      have hs := B0.size
      have B2 := (B0.alloc hs _).grown hgrow (by simp; omega) (fun q hq => (hown.lt q hq).1)
      go_roundw
      case rel => exact ⟨k + 1, by omega, by go_num, by rw [upTo_succ]; simpa [lI] using hown2, B2⟩
      case measure => simp [intOf]; omega
    · obtain rfl : k = n := by omega
      obtain ⟨gC, capC, rfl⟩ := own_pos hown (by omega)
      have hgC := hown.lt gC rfl
      go_wp2
      go_loopw [0, 4, 6] (fun r v s wr => ∃ (f m : Nat) (R C : List Int) (S : List (Int × Int)) (b' off' cp' capC : Nat), r = .slice (some ⟨b', off', none⟩) m cp' ∧ v = .slice (some ⟨gC, 0, none⟩) m capC ∧ R.length = m ∧ C.length = m ∧ 3 ≤ m ∧ S.length + m = k ∧ f + k = 13 + m ∧ runE f R C S = runE 13 xs (upTo k) [] ∧ Tame R ∧
        (∀ i, i < m → wr.cell? ⟨b', off' + i, none⟩ = some (.int .i64 (nth R i))) ∧ b' ≠ gC ∧ (∀ k, s.ownBlock = some k → b' ≠ k) ∧ wr.ownsRow w.heap.size 3 1 (.slice (some ⟨gC, 0, none⟩) m capC) m (lI C) ∧ wr.ownsRow w.heap.size 60 2 s S.length (cP S) ∧ Below w.heap.size w wr) (fun _ v _ _ => sliceLen v)
      case atStart => exact ⟨13, k, xs, upTo k, [], b, off, cp, capC, rfl, rfl, hl.out, upTo_length _, h3, by simp, by omega, rfl, ht.out, fun i hi => cellB B0 (hc.out i hi), by omega, (fun _ h => by cases h), hown, World.ownsRow_nil _ _ _ _, B0⟩
      case round =>
        clear hown B0
        obtain ⟨f, m, R, C, S, b', off', cp', capC', rfl, rfl, hR, hC, hm3, hSm, hf, hrunE, hT, hcR, hbg, hbs, hownC, hownS, B0⟩ := hrel
        replace hR := Lib.hid hR
        replace hC := Lib.hid hC
        replace hrunE := Lib.hid hrunE
        replace hT := Lib.hid hT
        replace hcR := Lib.hid hcR
        replace hbs := Lib.hid hbs
        have hm12 : m ≤ 12 := by omega
        obtain ⟨f', rfl⟩ : ∃ f', f = f' + 1 := ⟨f - 1, by omega⟩
        by_cases hm : 3 < m
        · go_wp2_with (go_at_call 75; refine (findEar_any b' off' m cp' R _ hR.out (by omega) hm12 hcR.out).mono ?_; rintro e w1 ⟨r, rfl, hfe, rfl⟩; rcases hfe with ⟨c, rfl, hcl, hear, hfirst⟩ | ⟨rfl, hno⟩)
          · have hcm : c < m := by rw [← hR.out]; exact hcl
            have hstep : Hid (runE (f' + 1) R C S = runE f' (cutL R c) (C.eraseIdx c) (S ++ [earLine C c])) := by
              show runE (f' + 1) R C S = _
              rw [runE, if_neg (by rw [hC.out]; omega), earOf_some hcl hear hfirst]
            have hT' := Lib.hid (cutL_tame hT.out hcl hear (by rw [hR.out]; omega))
            have hline : Hid (earLine C c = (min (nth C ((c + m - 1) % m)) (nth C ((c + 1) % m)), max (nth C ((c + m - 1) % m)) (nth C ((c + 1) % m)))) := by
              show earLine C c = _
              unfold earLine
              rw [hC.out]
            obtain ⟨m0, m1, m2⟩ := mod_ahead c m (by omega)
            obtain ⟨m3, m4, m5⟩ := mod_at1 c m (by omega)
            have ha : (c + m - 1) % m < m := Nat.mod_lt _ (by omega)
            have hb2 : (c + 1) % m < m := Nat.mod_lt _ (by omega)
            obtain ⟨hCl, hcC⟩ := own_ints hownC
            have q0 := hcC _ ha
            have q1 := hcC _ hb2
            rw [Nat.zero_add] at q0 q1
            have x0 := cellX q0
            have x1 := cellX q1
            have A := fun W => ahead_any m c W (by omega) (by omega) (by omega) (by omega)
            have B := fun W => after_any m c W (by omega) (by omega) (by omega)
            have CT := Lib.hid (fun W hW => cut_any b' off' m cp' c R W hR.out (by omega) hm12 hcm hT.out.fair hW)
            clear hfirst hear hcl q0 q1 hCl hcC
            have hc0 : (0 : Int) ≤ (c : Int) := by omega
            have hcl2 : (c : Int) + 1 ≤ 1000 := by omega
            go_wp2
            refine wp_region_take_tail 14 u6 (by kernel_rfl) (by kernel_rfl) (fun _ _ _ h => h) (.inl ⟨by rfl, fun w => by go_simp⟩) ?_
            simp only [Act.put, List.setIfInBounds_toArray, List.set_cons_zero, List.set_cons_succ]
            dsimp only [List.take, List.drop, Nat.reduceSub]
            repeat (go_big_quiet_step ((first
              | (go_at_call 77; exact onlyE (A _))
              | (go_at_call 61; exact onlyE (B _))
              | (go_at_call 76; exact callE (lineOf_any _ _ _)))))
            refine wpQuiet_nil ?_
            rintro ⟨w1, hw1⟩
            dsimp only
            replace B0 := nextB B0 hw1
            replace hownC := owns_next hownC hw1
            replace hownS := owns_next hownS hw1
            replace hcR := Lib.hid (fun i hi => cellB hw1 (hcR.out i hi))
            clear x0 x1 hw1 A B
            have e1 : min (nth C ((c + m - 1) % m)) (nth C ((c + 1) % m)) = (earLine C c).1 := by rw [hline.out]
            have e2 : max (nth C ((c + m - 1) % m)) (nth C ((c + 1) % m)) = (earLine C c).2 := by rw [hline.out]
            rw [e1, e2]
            clear e1 e2 hline m0 m1 m2 m3 m4 m5
            generalize earLine C c = ln at *
            go_wp2_with (at_builtin; refine wpList_append_own _ rfl _ _ 22 rfl w.heap.size 60 j0 (.agg #[.int .i64 0, .int .i64 0]) 2 16 Try.underlying22 P0.out P1.out P2.out P3.out rfl (by decide) _ _ _ rfl (hownS.alloc _) ⟨_, 0, none⟩ 1 1 [.int .i64 ln.1, .int .i64 ln.2] rfl rfl (cell_two_new _ _ _ _) (by simp [Value.oneCell']) (by unfold maxLen; omega) (by omega) (by have := B0.size; simp; omega) ?_; intro v' w2 hownS2 hgrow _)
            have hgne := own_apart hownC hownS (by decide)
            have hsz := B0.size
            have hownC2 := (hownC.alloc (.cells #[.int .i64 ln.1, .int .i64 ln.2] 60)).kept hgrow (.inr (fun e => hgne e.symm))
            have hcR2 := Lib.hid (fun i (hi : i < m) => hgrow.cell (cellB (b1 w1 (.cells #[.int .i64 ln.1, .int .i64 ln.2] 60)) (hcR.out i hi)) (fun e => hbs.out b' e.symm rfl))
            have B2 := (B0.alloc hsz (.cells #[.int .i64 ln.1, .int .i64 ln.2] 60)).grown hgrow (by simp; omega) (fun q hq => (hownS.lt q hq).1)
            have e3 : S.length + 1 = (S ++ [ln]).length := by simp
            have e4 : cP S ++ [.int .i64 ln.1, .int .i64 ln.2] = cP (S ++ [ln]) := by simp [cP]
            rw [e3, e4] at hownS2
            clear e3 e4 hgrow hownC hownS hcR B0 hsz hgne
            go_wp2_with (go_at_call 65; refine (CT.out _ hcR2.out).mono ?_; rintro e w3 ⟨g3, cap3, rfl, hown3, hb3⟩)
            have hsz2 := B2.size
            have hg3 := hown3.lt g3 rfl
            have hgc2 : gC < w2.heap.size := (hownC2.lt gC rfl).2
            have hv2 := Lib.hid (fun k (hk : v'.ownBlock = some k) => (hownS2.lt k hk).2)
            replace hownC2 := owns_next hownC2 hb3
            replace hownS2 := owns_next hownS2 hb3
            replace B2 := nextB B2 hb3
            clear hb3 hcR2
            have DL := Lib.hid (delete_any w.heap.size gC m capC' c (lI C) _ hownC2 (lI_one C) hcm (by omega))
            go_wp2_with (go_at_call 78; refine DL.out.mono ?_; rintro e w4 ⟨rfl, hownC4, hgr4⟩)
            rw [lI_erase] at hownC4
            have hgne := own_apart hownC2 hownS2 (by decide)
            have hownS4 := hownS2.kept hgr4 (.inr hgne)
            have hown4 := hown3.kept hgr4 (.inr (by simp [Value.ownBlock]; omega))
            have hsz3 := B2.size
            have B4 := B2.grown hgr4 (by omega) (fun q hq => by cases hq; exact hgC.1)
            go_roundw
            case rel =>
              refine ⟨f', m - 1, cutL R c, C.eraseIdx c, S ++ [ln], g3, 0, cap3, capC', rfl, rfl, ?_, ?_, by omega, by simp; omega, by omega, ?_, hT'.out, (own_ints hown4).2, by omega, ?_, hownC4, hownS4, B4⟩
              · rw [cutL_length (by rw [hR.out]; exact hcm), hR.out]
              · rw [List.length_eraseIdx_of_lt (by rw [hC.out]; exact hcm), hC.out]
              · rw [← hrunE.out, hstep.out]
              · intro k hk
                have := hv2.out k hk
                omega
            case measure => simp [sliceLen]; omega
          · go_wp2
            go_ret2
            refine ⟨B0, .inl ⟨?_, rfl⟩⟩
            rw [hrun.out, ← hrunE.out, runE, if_neg (by rw [hC.out]; omega), earOf_none hno]
        · obtain rfl : m = 3 := by omega
          have hres : Hid (runE 13 xs (upTo xs.length) [] = some (R, S)) := by
            show runE 13 xs (upTo xs.length) [] = _
            rw [hrun.out, ← hrunE.out, runE, if_pos (by rw [hC.out]; omega)]
          have hS9 : S.length ≤ 9 := by omega
          have hownS' := Lib.hid hownS
          obtain ⟨aS, cS, rfl, hcS, hpS⟩ := own_prs hownS
          have hnil : aS = none → cS = 0 := fun h => by
            subst h
            rcases hownS.2 with ⟨h1, _⟩ | ⟨g, cap, cur, h1, _⟩
            · simp at h1; exact h1.2
            · simp at h1
          have hpart := Lib.hid (show PartOk wr ⟨aS, S.length, cS, S⟩ from ⟨hpS, rfl, hnil⟩)
          have hall : Hid (allP [⟨aS, S.length, cS, S⟩] = S) := Lib.hid (by simp [allP])
          have MX := Lib.hid (fun W h => max_any b' off' 3 cp' R W hR.out (by omega) (by omega) h)
          clear hpS hnil hownC hownS
          go_wp2_with fail
          have hblk := Blk.new wr 22 #[.slice aS S.length cS]
          refine calls_at (F := fun W => Below wr.heap.size wr W ∧ Blk W wr.heap.size 22 #[.slice aS S.length cS]) ⟨b1 _ _, hblk⟩ ?_
          clear hblk
          rintro W ⟨C0, hblk⟩
          have z1 : ∀ i, i < 1 → W.cell? ⟨wr.heap.size, i, none⟩ = some (.slice (pat [⟨aS, S.length, cS, S⟩] i).a (pat [⟨aS, S.length, cS, S⟩] i).n (pat [⟨aS, S.length, cS, S⟩] i).c) := fun i hi => by
            obtain rfl : i = 0 := by omega
            exact hblk.c 0 rfl
          have z2 : ∀ i, i < 1 → PartOk W (pat [⟨aS, S.length, cS, S⟩] i) := fun i hi => by
            obtain rfl : i = 0 := by omega
            exact hpart.out.next C0
          have SR := sorted_any wr.heap.size 1 1 [⟨aS, S.length, cS, S⟩] W rfl (by omega) (by rw [hall.out]; omega) z1 z2
          rw [hall.out] at SR
          refine SR.mono ?_
          rintro e w1 ⟨a1, c1, rfl, hown1, hp1, hc1, hb1⟩
          dsimp only
          have hcR1 := Lib.hid (fun i hi => cellB hb1 (cellB C0 (hcR.out i hi)))
          have B3 := nextB (nextB B0 C0) hb1
          have hown1' := Lib.hid (own_base hown1 (show w.heap.size ≤ W.heap.size by have := B0.size; have := C0.size; omega))
          clear hblk hb1 hcR C0 SR hown1 B0 z1 z2
          go_wp2_with (go_at_call 79; refine (MX.out _ hcR1.out).mono ?_; rintro e w2 ⟨rfl, rfl⟩)
          go_ret2
          exact ⟨B3, .inr ⟨R, S, a1, c1, hres.out, rfl, hown1'.out, hp1, hc1⟩⟩
end Go.Proofs.Ytflbaadfbjpakaa
