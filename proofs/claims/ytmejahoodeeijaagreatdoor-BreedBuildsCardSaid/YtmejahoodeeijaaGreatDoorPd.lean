/- Layer 5, by the specification: ascending, least, size. -/
import Derived.Test.YtmejahoodeeijaaGreatDoorPc
namespace Go.Proofs.YtmejahoodeeijaaGreatDoor
open Go Go.RowKit

def AscR (xs : List Nat) (w : World) (e : Ending) (w' : World) : Prop := ∃ v, e = .returned v ∧ ∃ M : List El, M.Perm (elS xs) ∧ SortedE M ∧ w'.ownsRow w.heap.size 3 1 v xs.length (cE M) ∧ Below w.heap.size w w'
theorem elS_snoc {xs : List Nat} {i : Nat} (h : i < xs.length) : elS (xs.take (i + 1)) = elS (xs.take i) ++ [(xs.getD i 0, .int .i64 ((xs.getD i 0 : Nat) : Int))] := by
  rw [take_snocN xs i h]
  simp [elS]
theorem cE_snoc (M : List El) (e : El) : cE (M ++ [e]) = cE M ++ [e.2] := by simp [cE]
theorem sorted_snoc {M : List El} {e : El} {n : Nat} (hl : M.length = n) (h : SortedE M) : AlmostE (M ++ [e]) n n := by
  intro x y hxy hy hne
  have hyn : y < M.length := by omega
  have e1 : ∀ z, z < M.length → eth (M ++ [e]) z = eth M z := fun z hz => by
    unfold eth
    rw [List.getD_eq_getElem?_getD, List.getD_eq_getElem?_getD, List.getElem?_append_left hz]
  rw [e1 x (by omega), e1 y hyn]
  exact h x y hxy hyn
theorem swap_worldF {e : TypeId} {w : World} {base g n cap j : Nat} {M : List El} (hown : w.ownsRow base e 1 (.slice (some ⟨g, 0, none⟩) n cap) n (cE M)) (hl : M.length = n) (hj : j < n) (hb : base ≤ g) {w0 : World} (hB : Below base w0 w) :
    ((w.setCell ⟨g, j, none⟩ (eth M (j - 1)).2).setCell ⟨g, j - 1, none⟩ (eth M j).2).ownsRow base e 1 (.slice (some ⟨g, 0, none⟩) n cap) n (cE (swapE M j)) ∧
    Below base w0 ((w.setCell ⟨g, j, none⟩ (eth M (j - 1)).2).setCell ⟨g, j - 1, none⟩ (eth M j).2) := by
  have s1 := (hown.stored j (eth M (j - 1)).2).1
  have s2 := (s1.stored (j - 1) (eth M j).2).1
  rw [cE_swap (by omega)] at s2
  exact ⟨s2, (hB.setCell (p := ⟨g, _, none⟩) hb _).setCell (p := ⟨g, _, none⟩) hb _⟩
set_option maxRecDepth 100000 in
set_option maxHeartbeats 8000000 in
theorem refAsc_any (a : Option Addr) (n c : Nat) (xs : List Nat) (w : World) (h : Sets w a xs) (hn : xs.length = n) (h9 : n ≤ 1000) :
    Calls Tryz.prog 65 #[.slice a n c] w (AscR xs w) := by
  have hS := Lib.hid (fun W (hW : Below w.heap.size w W) => h.next hW)
  replace hn := Lib.hid hn
  clear h
  have SE : ∀ (M : List El) ys, M.Perm (elS ys) → SetE M := fun M ys hp => (setE_elS ys).perm hp
  have EL : ∀ (M : List El) (ys : List Nat), M.Perm (elS ys) → M.length = ys.length := fun M ys hp => by rw [hp.length_eq]; simp [elS]
  replace SE := Lib.hid SE
  replace EL := Lib.hid EL
  obtain ⟨i0, hi, hz0, hz1, hz2⟩ := info_parts infoInt
  have G0 := Lib.hid hi
  have G1 := Lib.hid hz0
  have G2 := Lib.hid hz1
  have G3 := Lib.hid hz2
  clear hi hz0 hz1 hz2
  go_enter Tryz.func65, Tryz.ntmps65
  go_wp2
  go_loopw [3, 4] (fun v i wr => ∃ k : Nat, ∃ M : List El, k ≤ n ∧ i = .int .i64 k ∧ M.Perm (elS (xs.take k)) ∧ SortedE M ∧ wr.ownsRow w.heap.size 3 1 v k (cE M) ∧ Below w.heap.size w wr) (fun _ i _ => n - (intOf i).toNat)
  case atStart => exact ⟨0, [], Nat.zero_le _, rfl, List.Perm.refl _, fun x y h1 h2 => by simp at h2, World.ownsRow_nil _ _ _ _, Below.refl _ _⟩
  case round =>
    obtain ⟨k, M, hk, rfl, hp, hso, hown, B0⟩ := hrel
    by_cases hlt : k < n
    · have hkl : k < xs.length := by rw [hn.out]; exact hlt
      have hki : (k : Int) < (n : Int) := by omega
      rcases hS.out _ B0 with h0 | ⟨b, off, rfl, hc⟩
      · omega
      · have x0 := hc k hkl
        have hML : M.length = k := by rw [EL.out M _ hp, List.length_take]; omega
        have eS := elS_snoc hkl
        have hp2 := Lib.hid (show (M ++ [(xs.getD k 0, Value.int .i64 ((xs.getD k 0 : Nat) : Int))]).Perm (elS (xs.take (k + 1))) by rw [eS]; exact hp.append_right _)
        have hal2 := Lib.hid (sorted_snoc (e := (xs.getD k 0, Value.int .i64 ((xs.getD k 0 : Nat) : Int))) hML hso)
        have hcs := Lib.hid (cE_snoc M (xs.getD k 0, Value.int .i64 ((xs.getD k 0 : Nat) : Int)))
        dsimp only at hcs
        generalize xs.getD k 0 = y at *
        clear hc hp hso eS hML
        have hs0 := B0.size
        have hq := Lib.hid hown.lt
        replace B0 := Lib.hid B0
        go_wp2_with (at_builtin; refine wpList_append_own _ rfl _ _ 39 rfl w.heap.size 3 i0 (.int .i64 0) 1 8 Tryz.underlying39 G0.out G1.out G2.out G3.out rfl (by decide) _ _ _ rfl (hown.alloc _) ⟨_, 0, none⟩ 1 1 [.int .i64 (y : Int)] rfl rfl (cell_one_new _ _ _) (by simp [Value.oneCell']) (by unfold maxLen; omega) (by omega) (by simp; omega) ?_; intro v' w4 hown4 hgrow _; obtain ⟨g, cap, rfl⟩ := own_pos hown4 (Nat.succ_pos _))
        have hgb := (hown4.lt g rfl).1
        rw [← hcs.out] at hown4
        have B4 := Lib.hid ((B0.out.alloc hs0 (.cells #[.int .i64 (y : Int)] 3)).grown hgrow (by simp; omega) (fun q hqq => by have := (hq.out q hqq).1; omega))
        generalize M ++ [(y, Value.int .i64 (y : Int))] = M1 at *
        clear hown hgrow hq
        replace hown4 := Lib.hid hown4
        go_loopw [5] (fun i wr => ∃ j : Nat, ∃ M : List El, j ≤ k ∧ i = .int .i64 j ∧ M.Perm (elS (xs.take (k + 1))) ∧ AlmostE M k j ∧ wr.ownsRow w.heap.size 3 1 (.slice (some ⟨g, 0, none⟩) (k + 1) cap) (k + 1) (cE M) ∧ Below w.heap.size w wr) (fun i _ => (intOf i).toNat)
        case atStart => exact ⟨k, M1, Nat.le_refl _, by go_num, hp2.out, hal2.out, hown4.out, B4.out⟩
        case round =>
          clear B4 hown4 hp2 hal2 hcs
          obtain ⟨j, M, hj, rfl, hp, hal, hown, B0⟩ := hrel
          have hMl := Lib.hid (show M.length = k + 1 by rw [EL.out M _ hp, List.length_take]; omega)
          have hSM := Lib.hid (SE.out M _ hp)
          replace hp := Lib.hid hp
          replace hal := Lib.hid hal
          by_cases h0 : 0 < j
          · have q0 := hown.cellAt j (by omega)
            have q2 := hown.cellAt (j - 1) (by omega)
            have f0 := hown.frozenAt j
            have f2 := hown.frozenAt (j - 1)
            rw [cE_at (by rw [hMl.out]; omega), hSM.out.at (by rw [hMl.out]; omega)] at q0 q2
            have x0 := cellX q0
            have x2 := cellX q2
            have i1 : (0 : Int) ≤ (j : Int) - 1 := by omega
            have i2 : ((j : Int) - 1).toNat = j - 1 := by omega
            have i3 : (0 : Int) < (j : Int) := by omega
            have i4 : (j : Int) < ((k + 1 : Nat) : Int) := by omega
            have i5 : (1 : Int) ≤ (j : Int) := by omega
            have i6 : (j : Int) - 1 < ((k + 1 : Nat) : Int) := by omega
            have i7 : IntKind.i64.wrap ((j : Int) - 1) = (j : Int) - 1 := IntWalk.i64_in _ (by omega)
            clear q0 q2
            by_cases hcv : (eth M j).1 < (eth M (j - 1)).1
            · have hci : (((eth M j).1 : Nat) : Int) < (((eth M (j - 1)).1 : Nat) : Int) := by omega
              go_wp2
              refine wp_region_ext (by kernel_rfl) (by kernel_rfl) ?_
              repeat (go_big_quiet_step (fail))
              refine wpQuiet_nil ?_
              rintro ⟨w1, hw1⟩
              dsimp only
              replace B0 := B0.trans (hw1.mono (by have := B0.size; have := (hown.lt g rfl).2; omega))
              replace hown := owns_next hown hw1
              clear x0 x2 f0 f2
              have q0 := hown.cellAt j (by omega)
              have q2 := hown.cellAt (j - 1) (by omega)
              rw [cE_at (by rw [hMl.out]; omega), hSM.out.at (by rw [hMl.out]; omega)] at q0 q2
              have f0 := hown.frozenAt j
              have f2 := hown.frozenAt (j - 1)
              have n1 : ¬ j - 1 = j := by omega
              have n3 : ¬ j = j - 1 := by omega
              have hv0 := Lib.hid (hSM.out.at (i := j) (by rw [hMl.out]; omega))
              have hv1 := Lib.hid (hSM.out.at (i := j - 1) (by rw [hMl.out]; omega))
              obtain ⟨hown4, B4⟩ := swap_worldF (j := j) hown hMl.out (by omega) hgb B0
              rw [hv0.out, hv1.out] at hown4 B4
              replace hown4 := Lib.hid hown4
              replace B4 := Lib.hid B4
              go_wp2
              go_roundw
              case rel => exact ⟨j - 1, swapE M j, by omega, by simp only [Value.int.injEq, true_and]; omega, (swapE_perm (by rw [hMl.out]; omega)).trans hp.out, almostE_swap hal.out (by rw [hMl.out]; omega) hj h0 hcv, hown4.out, B4.out⟩
              case measure => simp [intOf]; omega
            · have hci : ¬ (((eth M j).1 : Nat) : Int) < (((eth M (j - 1)).1 : Nat) : Int) := by omega
              go_wp2
              refine wp_region_ext (by kernel_rfl) (by kernel_rfl) ?_
              repeat (go_big_quiet_step (fail))
              refine wpQuiet_nil ?_
              rintro ⟨w1, hw1⟩
              dsimp only
              replace B0 := B0.trans (hw1.mono (by have := B0.size; have := (hown.lt g rfl).2; omega))
              replace hown := owns_next hown hw1
              clear x0 x2 f0 f2
              go_wp2
              go_roundw
              case rel => exact ⟨k + 1, M, by omega, by go_num, hp.out, fun x y h1 h2 => almostE_done hal.out (.inr hcv) x y h1 (by rw [hMl.out] at h2; omega), hown, B0⟩
              case measure => simp [intOf]; omega
          · have i3 : (j : Int) ≤ 0 := by omega
            go_wp2
            refine wp_region_ext (by kernel_rfl) (by kernel_rfl) ?_
            repeat (go_big_quiet_step (fail))
            refine wpQuiet_nil ?_
            rintro ⟨w1, hw1⟩
            dsimp only
            replace B0 := B0.trans (hw1.mono (by have := B0.size; have := (hown.lt g rfl).2; omega))
            replace hown := owns_next hown hw1
            go_wp2
            go_roundw
            case rel => exact ⟨k + 1, M, by omega, by go_num, hp.out, fun x y h1 h2 => almostE_done hal.out (.inl (by omega)) x y h1 (by rw [hMl.out] at h2; omega), hown, B0⟩
            case measure => simp [intOf]; omega
    · obtain rfl : k = n := by omega
      rw [show xs.take k = xs by rw [← hn.out, List.take_length]] at hp
      go_wp2
      go_ret
      exact ⟨_, rfl, M, hp, hso, by rw [hn.out]; exact hown, B0⟩
end Go.Proofs.YtmejahoodeeijaaGreatDoor
