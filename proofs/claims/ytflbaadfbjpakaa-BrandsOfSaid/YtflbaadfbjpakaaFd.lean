/- Layer 2: Of, by the specification. -/
import Derived.Test.YtflbaadfbjpakaaFc
import Derived.Test.YtflbaadfbjpakaaLw
namespace Go.Proofs.Ytflbaadfbjpakaa
open Go Go.RowKit

theorem lI_take (xs : List Int) (k : Nat) : (lI xs).take k = lI (xs.take k) := by simp [lI, List.map_take]
theorem lI_app (xs ys : List Int) : lI xs ++ lI ys = lI (xs ++ ys) := by simp [lI]
theorem erase_split {xs : List Int} {c : Nat} : xs.take c ++ xs.drop (c + 1) = xs.eraseIdx c := (List.eraseIdx_eq_take_drop_succ xs c).symm
theorem own_ne2 {w : World} {base base' k k' : Nat} {e e' : TypeId} {v v' : Value} {xs ys : List Int} (h : w.ownsRow base e 1 v k (lI xs)) (h' : w.ownsRow base' e' 1 v' k' (lI ys)) (hk : 0 < k) (hk' : 0 < k') (hne : nth xs 0 ≠ nth ys 0) : v.ownBlock ≠ v'.ownBlock := by
  obtain ⟨g, c, rfl⟩ := own_pos h hk
  obtain ⟨g', c', rfl⟩ := own_pos h' hk'
  intro e
  simp only [Value.ownBlock, Option.some.injEq] at e
  subst e
  have h1 := (own_ints h).2 0 hk
  have h2 := (own_ints h').2 0 hk'
  rw [h1] at h2
  simp only [Option.some.injEq, Value.int.injEq, true_and] at h2
  exact hne h2
theorem ofF_stop {xs : List Int} (h : runF 13 xs (upTo xs.length) [] = none) : ofF xs = none := by unfold ofF; rw [h]
theorem runF_stop1 {f : Nat} {R C : List Int} {S : List (Int × Int)} (hC : ¬ C.length ≤ 3) (h : oneOf R = none) : runF (f + 1) R C S = none := by rw [runF, if_neg hC, h]
theorem runF_stop2 {f c : Nat} {R C : List Int} {S : List (Int × Int)} (hC : ¬ C.length ≤ 3) (h : oneOf R = some c) (hE : ¬ EarP R c) : runF (f + 1) R C S = none := by
  rw [runF, if_neg hC, h]
  show (if EarP R c then _ else none) = none
  rw [if_neg hE]
theorem runF_step {f c : Nat} {R C : List Int} {S : List (Int × Int)} (hC : ¬ C.length ≤ 3) (h : oneOf R = some c) (hE : EarP R c) : runF (f + 1) R C S = runF f (cutL R c) (C.eraseIdx c) (putL S (earLine C c)) := by
  rw [runF, if_neg hC, h]
  show (if EarP R c then _ else none) = _
  rw [if_pos hE]
theorem grown_set (w : World) (g i : Nat) (v : Value) : w.grownBy (w.setCell ⟨g, i, none⟩ v) (some g) :=
  ⟨rfl, rfl, rfl, by simp, fun j _ hj => Below.heap_setCell w ⟨g, i, none⟩ v j (fun e => hj (by rw [e]))⟩
theorem nth_take {xs : List Int} {i k : Nat} (h : i < k) : nth (xs.take k) i = nth xs i := by
  unfold nth
  rw [List.getD_eq_getElem?_getD, List.getD_eq_getElem?_getD, List.getElem?_take, if_pos h]
theorem src_erase {w : World} {base g n cap t : Nat} {e : TypeId} {R : List Int} (h : w.ownsRow base e 1 (.slice (some ⟨g, 0, none⟩) n cap) n (lI R)) (hl : R.length = n) :
    ∀ j u, ((lI R).drop (t + 1))[j]? = some u → w.cell? (Addr.add ⟨g, t + 1, none⟩ j) = some u := by
  intro j u hj
  rw [show Addr.add ⟨g, t + 1, none⟩ j = ⟨g, t + 1 + j, none⟩ by simp [Addr.add]]
  rw [List.getElem?_drop] at hj
  have hlt := (List.getElem?_eq_some_iff.1 hj).1
  rw [lI_length, hl] at hlt
  rw [h.cellAt _ (by omega)]
  exact hj
theorem take_one {α : Type} (l : List α) (t : Nat) : l.take (t * 1) ++ l.drop (t + 1) = l.eraseIdx t := by rw [Nat.mul_one]; exact (List.eraseIdx_eq_take_drop_succ l t).symm
set_option maxRecDepth 100000 in
set_option maxHeartbeats 8000000 in
theorem refOf_yes (a : Option Addr) (n cp : Nat) (xs : List Int) (w : World) (h : Ints w a xs) (hn : xs.length = n) (hR : RoundP xs) :
    Calls Try.prog 27 #[.slice a n cp] w (OfAll xs w) := by
  obtain ⟨i0, hi, hz0, hz1, hz2⟩ := info_parts infoInt
  have G0 := Lib.hid hi
  have G1 := Lib.hid hz0
  have G2 := Lib.hid hz1
  have G3 := Lib.hid hz2
  clear hi hz0 hz1 hz2
  have h3 := hR.1
  have h12 := hR.2.1
  have K := refIsRound_any a n cp xs w h hn (by omega)
  rw [decide_eq_true hR] at K
  replace K := Lib.hid K
  obtain ⟨b, off, rfl, hc⟩ := ints_at h (by omega)
  rw [hn] at hc
  have hb : b < w.heap.size := block_lt_of_cell (hc 0 (by omega))
  have hT0 := Lib.hid hR.tame
  have hfin := Lib.hid (ofF_ofL hR.tame hR.1 hR.2.1)
  have hxs : Hid (xs.take n = xs) := Lib.hid (List.take_of_length_le (by omega))
  have hrun : Hid (runF 13 xs (upTo xs.length) [] = runF 13 xs (upTo n) []) := by subst hn; exact Lib.hid rfl
  have hn12 : n ≤ 12 := by omega
  have hn3 : 3 ≤ n := by omega
  replace hR := Lib.hid hR
  replace hc := Lib.hid hc
  have hxl := Lib.hid hn
  clear h h3 h12 hn
  go_enter Try.func27, Try.ntmps27
  go_wp2_with (go_at_call 44; refine K.out.mono ?_; rintro e w1 ⟨rfl, rfl⟩)
  go_loopw [4, 5, 6] (fun v4 v5 i wr => ∃ k : Nat, k ≤ n ∧ i = .int .i64 k ∧ wr.ownsRow w.heap.size 3 1 v4 k (lI (xs.take k)) ∧ wr.ownsRow w.heap.size 3 1 v5 k (lI (upTo k)) ∧ (k = 0 → v4 = .slice none 0 0 ∧ v5 = .slice none 0 0) ∧ Below w.heap.size w wr) (fun _ _ i _ => n - (intOf i).toNat)
  case atStart => exact ⟨0, by omega, rfl, World.ownsRow_nil _ _ _ _, World.ownsRow_nil _ _ _ _, fun _ => ⟨rfl, rfl⟩, Below.refl _ _⟩
  case round =>
    obtain ⟨k, hk, rfl, hown4, hown5, hk0, B0⟩ := hrel
    by_cases hlt : k < n
    · have x0 := cellB B0 (hc.out k hlt)
      have hi0 : (k : Int) < (n : Int) := by omega
      have hx0 : 1 ≤ nth xs 0 := (hT0.out 0 (by rw [hxl.out]; omega)).1
      have e1 := Lib.hid (take_nth (zs := xs) (i := k) (by rw [hxl.out]; exact hlt))
      have hsz := B0.size
      have B1 := B0.alloc hsz (.cells #[.int .i64 (nth xs k)] 3)
      have hn5 : k = 0 ∨ u4.ownBlock ≠ u5.ownBlock := by
        by_cases hk : k = 0
        · exact .inl hk
        · right
          refine own_ne2 hown4 hown5 (by omega) (by omega) ?_
          rw [nth_take (by omega), nth_upTo (by omega)]
          simp; omega
      go_wp2_with (first
        | (at_builtin; refine wpList_append_own _ rfl _ _ 30 rfl w.heap.size 3 i0 (.int .i64 0) 1 8 Try.underlying30 G0.out G1.out G2.out G3.out rfl (by decide) _ _ _ rfl (hown4.alloc _) ⟨_, 0, none⟩ 1 1 [.int .i64 (nth xs k)] rfl rfl (cell_one_new _ _ _) (by simp [Value.oneCell']) (by unfold maxLen; omega) (by omega) (by simp; omega) ?_; intro v4' w2 hown4' hgrow4 _; change (wr.alloc _).grownBy w2 u4.ownBlock at hgrow4; rw [← lI_snoc, ← e1.out] at hown4'; have B2 := B1.grown hgrow4 (by simp; omega) (fun q hq => (hown4.lt q hq).1); have hown5' := (hown5.alloc (.cells #[.int .i64 (nth xs k)] 3)).kept hgrow4 (by rcases hn5 with hk | hk; exact .inl (by rw [(hk0 hk).2]; rfl); exact .inr (fun e => hk e.symm)); have hn4 : v4'.ownBlock ≠ u5.ownBlock := (by by_cases hk : k = 0; (obtain ⟨g, c, rfl⟩ := own_pos hown4' (by omega); rw [(hk0 hk).2]; simp [Value.ownBlock]); (refine own_ne2 hown4' hown5' (by omega) (by omega) ?_; rw [nth_take (by omega), nth_upTo (by omega)]; simp; omega)))
        | (at_builtin; refine wpList_append_own _ rfl _ _ 30 rfl w.heap.size 3 i0 (.int .i64 0) 1 8 Try.underlying30 G0.out G1.out G2.out G3.out rfl (by decide) _ _ _ rfl (hown5'.alloc _) ⟨_, 0, none⟩ 1 1 [.int .i64 (k : Int)] rfl rfl (cell_one_new _ _ _) (by simp [Value.oneCell']) (by unfold maxLen; omega) (by omega) (by have := B2.size; simp; omega) ?_; intro v5' w3 hown5'' hgrow5 _; change (w2.alloc _).grownBy w3 u5.ownBlock at hgrow5))
      have hown4'' := (hown4'.alloc (.cells #[.int .i64 (k : Int)] 3)).kept hgrow5 (.inr hn4)
      have B3 := (B2.alloc B2.size (.cells #[.int .i64 (k : Int)] 3)).grown hgrow5 (by have := B2.size; simp; omega) (fun q hq => (hown5'.lt q hq).1)
      rw [← lI_snoc, ← upTo_succ] at hown5''
      go_roundw
      case rel => exact ⟨k + 1, by omega, by go_num, hown4'', hown5'', fun h => by omega, B3⟩
      case measure => simp [intOf]; omega
    · obtain rfl : k = n := by omega
      rw [hxs.out] at hown4
      obtain ⟨g4, c4, rfl⟩ := own_pos hown4 (by omega)
      obtain ⟨g5, c5, rfl⟩ := own_pos hown5 (by omega)
      have hx0 : 1 ≤ nth xs 0 := (hT0.out 0 (by rw [hxl.out]; omega)).1
      have hg : g4 ≠ g5 := fun e => by
        refine own_ne2 hown4 hown5 (by omega) (by omega) ?_ (by simp [Value.ownBlock, e])
        rw [nth_upTo (by omega)]
        simp; omega
      clear hx0 hk0
      go_wp2_with fail
      go_loopw [4, 5, 7, 8, 9, 10, 11] (fun v4 v5 v7 _ _ _ _ wr => ∃ (f m : Nat) (R C : List Int) (S : List (Int × Int)), v4 = .slice (some ⟨g4, 0, none⟩) m c4 ∧ v5 = .slice (some ⟨g5, 0, none⟩) m c5 ∧ R.length = m ∧ C.length = m ∧ 3 ≤ m ∧ S.length + m = k ∧ f + k = 13 + m ∧
        runF f R C S = runF 13 xs (upTo k) [] ∧ Tame R ∧ wr.ownsRow w.heap.size 3 1 v4 m (lI R) ∧ wr.ownsRow w.heap.size 3 1 v5 m (lI C) ∧ wr.ownsRow w.heap.size 60 2 v7 S.length (cP S) ∧ Below w.heap.size w wr) (fun v4 _ _ _ _ _ _ _ => sliceLen v4)
      case atStart => exact ⟨13, k, xs, upTo k, [], rfl, rfl, hxl.out, upTo_length _, hn3, by simp, by omega, rfl, hT0.out, hown4, hown5, World.ownsRow_nil _ _ _ _, B0⟩
      case round =>
        clear hown4 hown5 B0 hT0 K hc hxs
        obtain ⟨f, m, R, C, S, rfl, rfl, hRl, hCl, hm3, hSm, hf, hrunF, hT, hown4, hown5, hown7, B0⟩ := hrel
        have hm12 : m ≤ 12 := by omega
        obtain ⟨f, rfl⟩ : ∃ f', f = f' + 1 := ⟨f - 1, by omega⟩
        have hRl' := hRl
        have hCl' := hCl
        replace hRl := Lib.hid hRl
        replace hCl := Lib.hid hCl
        replace hrunF := Lib.hid hrunF
        replace hT := Lib.hid hT
        by_cases hm : 3 < m
        · have hC3 := Lib.hid (show ¬ C.length ≤ 3 by omega)
          obtain ⟨_, hc4⟩ := own_ints hown4
          obtain ⟨_, hc5⟩ := own_ints hown5
          simp only [Nat.zero_add] at hc4 hc5
          replace hc4 := Lib.hid hc4
          replace hc5 := Lib.hid hc5
          clear hRl' hCl'
          go_wp2_with fail
          go_loop [8] (fun a_ => ∃ t : Nat, t ≤ m ∧ a_ = .int .i64 t ∧ ∀ j, j < t → nth R j ≠ 1) (fun a_ => m - (intOf a_).toNat)
          case atStart => exact ⟨0, by omega, rfl, fun j hj => by omega⟩
          case round =>
            obtain ⟨t, ht, rfl, hall⟩ := hrel
            replace hall := Lib.hid hall
            by_cases htm : t < m
            · have x0 := hc4.out t htm
              by_cases h1 : nth R t = 1
              · have ho := Lib.hid (oneOf_some.2 ⟨by rw [hRl.out]; exact htm, h1, hall.out⟩)
                have hq : (nth R t != 1) = false := by rw [bne_eq_false_iff_eq]; exact h1
                rw [h1] at x0
                clear hall hq
                obtain ⟨m0, m1, m2⟩ := mod_ahead t m (by omega)
                obtain ⟨m3, m4, m5⟩ := mod_at1 t m (by omega)
                have ha : (t + m - 1) % m < m := Nat.mod_lt _ (by omega)
                have hb2 : (t + 1) % m < m := Nat.mod_lt _ (by omega)
                go_wp2_with fail
                refine wp_region_ext (by kernel_rfl) (by kernel_rfl) ?_
                repeat (go_big_quiet_step (fail))
                refine wpQuiet_nil ?_
                rintro ⟨w1, hw1⟩
                dsimp only
                replace B0 := nextB B0 hw1
                replace hown4 := owns_next hown4 hw1
                replace hown5 := owns_next hown5 hw1
                replace hown7 := owns_next hown7 hw1
                clear x0 hw1 hc4 hc5
                obtain ⟨_, hc4⟩ := own_ints hown4
                simp only [Nat.zero_add] at hc4
                have xa := hc4 _ ha
                have xb := hc4 _ hb2
                clear hc4
                have hya := hT.out _ (by rw [hRl.out]; exact ha)
                have hyb := hT.out _ (by rw [hRl.out]; exact hb2)
                have hcase : ((nth R ((t + m - 1) % m) == 1) = true) ∨ ((nth R ((t + m - 1) % m) == 1) = false ∧ (nth R ((t + 1) % m) == 1) = true) ∨ ((nth R ((t + m - 1) % m) == 1) = false ∧ (nth R ((t + 1) % m) == 1) = false) := by
                  simp only [beq_iff_eq, beq_eq_false_iff_ne, ne_eq]
                  omega
                have hnear : Hid (((nth R ((t + m - 1) % m) == 1) = true ∨ (nth R ((t + 1) % m) == 1) = true) → ofL xs = none) := Lib.hid fun q => by
                  rw [← hfin.out]
                  refine ofF_stop ?_
                  rw [hrun.out, ← hrunF.out]
                  refine runF_stop2 hC3.out ho.out fun hE => ?_
                  unfold EarP at hE
                  rw [hRl.out] at hE
                  simp only [beq_iff_eq] at q
                  omega
                have hear : Hid ((nth R ((t + m - 1) % m) == 1) = false → (nth R ((t + 1) % m) == 1) = false → EarP R t) := Lib.hid fun q0 q1 => by
                  simp only [beq_eq_false_iff_ne, ne_eq] at q0 q1
                  exact ⟨h1, by rw [hRl.out]; omega, by rw [hRl.out]; omega⟩
                rcases hcase with q0 | ⟨q0, q1⟩ | ⟨q0, q1⟩
                · have hN := Lib.hid (hnear.out (.inl q0))
                  clear hnear hear
                  generalize nth R ((t + m - 1) % m) = ya at *
                  generalize nth R ((t + 1) % m) = yb at *
                  go_wp2_with fail
                  go_ret2
                  exact ⟨B0, .inr ⟨10, .inr ⟨hR.out, hN.out, rfl⟩, rfl⟩⟩
                · have hN := Lib.hid (hnear.out (.inr q1))
                  clear hnear hear
                  generalize nth R ((t + m - 1) % m) = ya at *
                  generalize nth R ((t + 1) % m) = yb at *
                  go_wp2_with fail
                  go_ret2
                  exact ⟨B0, .inr ⟨10, .inr ⟨hR.out, hN.out, rfl⟩, rfl⟩⟩
                · have hE := Lib.hid (hear.out q0 q1)
                  clear hnear hear
                  have hstep := Lib.hid (runF_step (f := f) (S := S) hC3.out ho.out hE.out)
                  have hT' := Lib.hid (cutL_tame hT.out (by rw [hRl.out]; exact htm) hE.out (by rw [hRl.out]; omega))
                  have hab : (t + m - 1) % m ≠ (t + 1) % m := by rw [mod_small (by omega), mod_small (by omega)]; split <;> split <;> omega
                  have hcut : Hid (cutL R t = ((R.set ((t + m - 1) % m) (nth R ((t + m - 1) % m) - 1)).set ((t + 1) % m) (nth R ((t + 1) % m) - 1)).eraseIdx t) := Lib.hid (by
                    unfold cutL
                    simp only []
                    rw [hRl.out, nth_set (by rw [hRl.out]; exact ha), if_neg hab.symm])
                  have hline : Hid (earLine C t = (min (nth C ((t + m - 1) % m)) (nth C ((t + 1) % m)), max (nth C ((t + m - 1) % m)) (nth C ((t + 1) % m)))) := Lib.hid (by unfold earLine; rw [hCl.out])
                  have hab2 : Hid (nth R ((t + 1) % m) = nth (R.set ((t + m - 1) % m) (nth R ((t + m - 1) % m) - 1)) ((t + 1) % m)) := Lib.hid (by rw [nth_set (by rw [hRl.out]; exact ha), if_neg hab.symm])
                  have fa := hown4.frozenAt ((t + m - 1) % m)
                  have st := (hown4.stored ((t + m - 1) % m) (.int .i64 (nth R ((t + m - 1) % m) - 1))).1
                  rw [lI_set] at st
                  have fb := st.frozenAt ((t + 1) % m)
                  have xb2 := (own_ints st).2 _ hb2
                  rw [Nat.zero_add, ← hab2.out] at xb2
                  have st2 := (st.stored ((t + 1) % m) (.int .i64 (nth R ((t + 1) % m) - 1))).1
                  rw [lI_set] at st2
                  have hg4 := (hown4.lt g4 rfl)
                  have hgne := own_apart hown4 hown7 (by decide)
                  have own5 := (hown5.kept (grown_set w1 g4 ((t + m - 1) % m) (.int .i64 (nth R ((t + m - 1) % m) - 1))) (.inr (by simp [Value.ownBlock]; omega))).kept (grown_set _ g4 ((t + 1) % m) (.int .i64 (nth R ((t + 1) % m) - 1))) (.inr (by simp [Value.ownBlock]; omega))
                  have own7 := (hown7.kept (grown_set w1 g4 ((t + m - 1) % m) (.int .i64 (nth R ((t + m - 1) % m) - 1))) (.inr hgne)).kept (grown_set _ g4 ((t + 1) % m) (.int .i64 (nth R ((t + 1) % m) - 1))) (.inr hgne)
                  have BB := (B0.setCell (p := ⟨g4, (t + m - 1) % m, none⟩) hg4.1 (.int .i64 (nth R ((t + m - 1) % m) - 1))).setCell (p := ⟨g4, (t + 1) % m, none⟩) hg4.1 (.int .i64 (nth R ((t + 1) % m) - 1))
                  have hRR : Hid (((R.set ((t + m - 1) % m) (nth R ((t + m - 1) % m) - 1)).set ((t + 1) % m) (nth R ((t + 1) % m) - 1)).length = m) := Lib.hid (by simp; exact hRl.out)
                  clear hown4 hown5 hown7 B0 st hab2 hab hE ho hT hC3
                  generalize ((R.set ((t + m - 1) % m) (nth R ((t + m - 1) % m) - 1)).set ((t + 1) % m) (nth R ((t + 1) % m) - 1)) = R2 at *
                  generalize nth R ((t + m - 1) % m) = ya at *
                  generalize nth R ((t + 1) % m) = yb at *
                  go_wp2_with fail
                  generalize (w1.setCell ⟨g4, (t + m - 1) % m, none⟩ (.int .i64 (ya - 1))).setCell ⟨g4, (t + 1) % m, none⟩ (.int .i64 (yb - 1)) = WS at *
                  obtain ⟨_, hc5⟩ := own_ints own5
                  simp only [Nat.zero_add] at hc5
                  have z0 := cellX (hc5 _ ha)
                  have z1 := cellX (hc5 _ hb2)
                  clear hc5 xa xb xb2 fa fb q0 q1
                  refine wp_region_ext_tail 20 (by kernel_rfl) (by kernel_rfl) ?_
                  simp only [List.take_succ_cons, List.take_zero, List.drop_succ_cons, List.drop_zero]
                  repeat (go_big_quiet_step (fail))
                  refine wpQuiet_nil ?_
                  rintro ⟨w3, hw3⟩
                  dsimp only
                  have hl1 : min (nth C ((t + m - 1) % m)) (nth C ((t + 1) % m)) = (earLine C t).1 := by rw [hline.out]
                  have hl2 : max (nth C ((t + m - 1) % m)) (nth C ((t + 1) % m)) = (earLine C t).2 := by rw [hline.out]
                  rw [hl1, hl2]
                  clear hl1 hl2 hline z0 z1
                  generalize earLine C t = ln at *
                  replace st2 := owns_next st2 hw3
                  replace own5 := owns_next own5 hw3
                  replace own7 := owns_next own7 hw3
                  replace BB := nextB BB hw3
                  clear hw3 m0 m1 m2 m3 m4 m5
                  obtain ⟨a7, c7, rfl, hc7, hp7, hn7, had7⟩ := own_prs2 own7
                  have PU := Lib.hid (refPut_any a7 S.length c7 S ln.1 ln.2 w3 hp7 rfl hc7 hn7 had7 (by omega))
                  clear own7 hp7 hn7 had7 hgne
                  go_wp2_with (go_at_call 56; refine PU.out.mono ?_; rintro e w4 ⟨v8, rfl, own8, hb4⟩)
                  replace st2 := owns_next st2 hb4
                  replace own5 := owns_next own5 hb4
                  have own8' := own_base own8 BB.size
                  replace BB := nextB BB hb4
                  clear own8 hb4 PU
                  have cap4 := (own_cap st2).1
                  have cap5 := (own_cap own5).1
                  have hg5b := (own5.lt g5 rfl).1
                  have k1 : (t : Int) + 1 ≤ (m : Int) := by omega
                  have k3 : ((t : Int) + 1).toNat = t + 1 := by omega
                  have k4 : t ≤ c4 := by omega
                  have k5 : t + 1 ≤ c4 := by omega
                  have k6 : t ≤ c5 := by omega
                  have k7 : t + 1 ≤ c5 := by omega
                  have k8 : (0 : Int) ≤ (t : Int) + 1 := by omega
                  have hmt : t + 1 ≤ m := by omega
                  by_cases h4 : t + 1 < c4
                  · by_cases h5 : t + 1 < c5
                    · refine wp_region_ext_tail 7 (by kernel_rfl) (by kernel_rfl) ?_
                      simp only [List.take_succ_cons, List.take_zero, List.drop_succ_cons, List.drop_zero]
                      repeat (go_big_quiet_step (fail))
                      refine wpQuiet_nil ?_
                      rintro ⟨w5, hw⟩
                      dsimp only
                      replace st2 := owns_next st2 hw
                      replace own5 := owns_next own5 hw
                      replace own8' := owns_next own8' hw
                      replace BB := nextB BB hw
                      clear hw
                      have src := Lib.hid (src_erase (t := t) st2 hRR.out)
                      have one := Lib.hid (show ∀ u ∈ (lI R2).drop (t + 1), u.oneCell' = true from fun u hu => lI_one R2 u (List.mem_of_mem_drop hu))
                      have len := Lib.hid (show ((lI R2).drop (t + 1)).length = (m - (t + 1)) * 1 by rw [List.length_drop, lI_length, hRR.out]; omega)
                      have tk := Lib.hid (own_take st2 t (by omega))
                      have hga := own_apart st2 own8' (by decide)
                      go_wp2_with (at_builtin; refine wpList_append_fits w5 rfl _ _ 30 rfl w.heap.size 3 i0 1 Try.underlying30 G0.out G2.out g4 t (c4) ((lI R2).take (t * 1)) rfl tk.out ⟨g4, t + 1, none⟩ (m - (t + 1)) (c4 - (t + 1)) ((lI R2).drop (t + 1)) rfl len.out src.out one.out (by omega) ?_; intro w6 ownN4 hgr)
                      rw [take_one, lI_erase] at ownN4
                      replace own5 := own5.kept hgr (.inr (by simp [Value.ownBlock]; omega))
                      replace own8' := own8'.kept hgr (.inr hga)
                      replace BB := BB.grown hgr BB.size (fun q hq => by cases hq; exact hg4.1)
                      clear src one len tk hga hgr
                      refine wp_region_ext_tail 7 (by kernel_rfl) (by kernel_rfl) ?_
                      simp only [List.take_succ_cons, List.take_zero, List.drop_succ_cons, List.drop_zero]
                      repeat (go_big_quiet_step (fail))
                      refine wpQuiet_nil ?_
                      rintro ⟨w7, hw⟩
                      dsimp only
                      replace own5 := owns_next own5 hw
                      replace ownN4 := owns_next ownN4 hw
                      replace own8' := owns_next own8' hw
                      replace BB := nextB BB hw
                      clear hw
                      have src := Lib.hid (src_erase (t := t) own5 hCl.out)
                      have one := Lib.hid (show ∀ u ∈ (lI C).drop (t + 1), u.oneCell' = true from fun u hu => lI_one C u (List.mem_of_mem_drop hu))
                      have len := Lib.hid (show ((lI C).drop (t + 1)).length = (m - (t + 1)) * 1 by rw [List.length_drop, lI_length, hCl.out]; omega)
                      have tk := Lib.hid (own_take own5 t (by omega))
                      have hga := own_apart own5 own8' (by decide)
                      go_wp2_with (at_builtin; refine wpList_append_fits w7 rfl _ _ 30 rfl w.heap.size 3 i0 1 Try.underlying30 G0.out G2.out g5 t (c5) ((lI C).take (t * 1)) rfl tk.out ⟨g5, t + 1, none⟩ (m - (t + 1)) (c5 - (t + 1)) ((lI C).drop (t + 1)) rfl len.out src.out one.out (by omega) ?_; intro w8 ownN5 hgr)
                      rw [take_one, lI_erase] at ownN5
                      replace ownN4 := ownN4.kept hgr (.inr (by simp [Value.ownBlock]; omega))
                      replace own8' := own8'.kept hgr (.inr hga)
                      replace BB := BB.grown hgr BB.size (fun q hq => by cases hq; exact hg5b)
                      clear src one len tk hga hgr
                      rw [← hcut.out] at ownN4
                      rw [show S.length + 1 = (putL S (ln.1, ln.2)).length by rw [(putL_perm _ _).length_eq]; simp] at own8'
                      go_roundw
                      case rel =>
                        have em : t + (m - (t + 1)) = m - 1 := by omega
                        refine ⟨f, m - 1, cutL R t, C.eraseIdx t, putL S (ln.1, ln.2), ?_, ?_, ?_, ?_, by omega, ?_, by omega, ?_, hT'.out, by rw [em] at ownN4 ⊢; exact ownN4, by rw [em] at ownN5 ⊢; exact ownN5, own8', BB⟩
                        · rw [show t + (m - (t + 1)) = m - 1 by omega]
                        · rw [show t + (m - (t + 1)) = m - 1 by omega]
                        · rw [cutL_length (by rw [hRl.out]; exact htm), hRl.out]
                        · rw [List.length_eraseIdx_of_lt (by rw [hCl.out]; exact htm), hCl.out]
                        · rw [(putL_perm _ _).length_eq]; simp <;> omega
                        · rw [← hrunF.out, hstep.out]
                      case measure => simp [sliceLen] <;> omega
                    · obtain rfl : c5 = t + 1 := by omega
                      obtain rfl : m = t + 1 := by omega
                      refine wp_region_ext_tail 7 (by kernel_rfl) (by kernel_rfl) ?_
                      simp only [List.take_succ_cons, List.take_zero, List.drop_succ_cons, List.drop_zero]
                      repeat (go_big_quiet_step (fail))
                      refine wpQuiet_nil ?_
                      rintro ⟨w5, hw⟩
                      dsimp only
                      replace st2 := owns_next st2 hw
                      replace own5 := owns_next own5 hw
                      replace own8' := owns_next own8' hw
                      replace BB := nextB BB hw
                      clear hw
                      have src := Lib.hid (src_erase (t := t) st2 hRR.out)
                      have one := Lib.hid (show ∀ u ∈ (lI R2).drop (t + 1), u.oneCell' = true from fun u hu => lI_one R2 u (List.mem_of_mem_drop hu))
                      have len := Lib.hid (show ((lI R2).drop (t + 1)).length = 0 * 1 by rw [List.length_drop, lI_length, hRR.out]; omega)
                      have tk := Lib.hid (own_take st2 t (by omega))
                      have hga := own_apart st2 own8' (by decide)
                      go_wp2_with (at_builtin; refine wpList_append_fits w5 rfl _ _ 30 rfl w.heap.size 3 i0 1 Try.underlying30 G0.out G2.out g4 t (c4) ((lI R2).take (t * 1)) rfl tk.out ⟨g4, t + 1, none⟩ 0 (c4 - (t + 1)) ((lI R2).drop (t + 1)) rfl len.out src.out one.out (by omega) ?_; intro w6 ownN4 hgr)
                      rw [take_one, lI_erase] at ownN4
                      replace own5 := own5.kept hgr (.inr (by simp [Value.ownBlock]; omega))
                      replace own8' := own8'.kept hgr (.inr hga)
                      replace BB := BB.grown hgr BB.size (fun q hq => by cases hq; exact hg4.1)
                      clear src one len tk hga hgr
                      refine wp_region_ext_tail 7 (by kernel_rfl) (by kernel_rfl) ?_
                      simp only [List.take_succ_cons, List.take_zero, List.drop_succ_cons, List.drop_zero]
                      repeat (go_big_quiet_step (fail))
                      refine wpQuiet_nil ?_
                      rintro ⟨w7, hw⟩
                      dsimp only
                      replace own5 := owns_next own5 hw
                      replace ownN4 := owns_next ownN4 hw
                      replace own8' := owns_next own8' hw
                      replace BB := nextB BB hw
                      clear hw
                      have src := Lib.hid (src_erase (t := t) own5 hCl.out)
                      have one := Lib.hid (show ∀ u ∈ (lI C).drop (t + 1), u.oneCell' = true from fun u hu => lI_one C u (List.mem_of_mem_drop hu))
                      have len := Lib.hid (show ((lI C).drop (t + 1)).length = 0 * 1 by rw [List.length_drop, lI_length, hCl.out]; omega)
                      have tk := Lib.hid (own_take own5 t (by omega))
                      have hga := own_apart own5 own8' (by decide)
                      go_wp2_with (at_builtin; refine wpList_append_fits w7 rfl _ _ 30 rfl w.heap.size 3 i0 1 Try.underlying30 G0.out G2.out g5 t (t + 1) ((lI C).take (t * 1)) rfl tk.out ⟨g5, 0, none⟩ 0 0 [] rfl rfl (fun j u hj => by simp at hj) (fun u hu => by simp at hu) (by omega) ?_; intro w8 ownN5 hgr)
                      have hnil := Lib.hid (show (lI C).drop (t + 1) = [] from List.drop_of_length_le (by rw [lI_length, hCl.out]; exact Nat.le_refl _))
                      rw [← hnil.out] at ownN5
                      rw [take_one, lI_erase] at ownN5
                      replace ownN4 := ownN4.kept hgr (.inr (by simp [Value.ownBlock]; omega))
                      replace own8' := own8'.kept hgr (.inr hga)
                      replace BB := BB.grown hgr BB.size (fun q hq => by cases hq; exact hg5b)
                      clear src one len tk hga hgr
                      rw [← hcut.out] at ownN4
                      rw [show S.length + 1 = (putL S (ln.1, ln.2)).length by rw [(putL_perm _ _).length_eq]; simp] at own8'
                      go_roundw
                      case rel =>
                        refine ⟨f, (t + 1) - 1, cutL R t, C.eraseIdx t, putL S (ln.1, ln.2), ?_, ?_, ?_, ?_, by omega, ?_, by omega, ?_, hT'.out, ownN4, ownN5, own8', BB⟩
                        · rfl
                        · rfl
                        · rw [cutL_length (by rw [hRl.out]; exact htm), hRl.out]
                        · rw [List.length_eraseIdx_of_lt (by rw [hCl.out]; exact htm), hCl.out]
                        · rw [(putL_perm _ _).length_eq]; simp <;> omega
                        · rw [← hrunF.out, hstep.out]
                      case measure => simp [sliceLen] <;> omega
                  · obtain rfl : c4 = t + 1 := by omega
                    obtain rfl : m = t + 1 := by omega
                    by_cases h5 : t + 1 < c5
                    · refine wp_region_ext_tail 7 (by kernel_rfl) (by kernel_rfl) ?_
                      simp only [List.take_succ_cons, List.take_zero, List.drop_succ_cons, List.drop_zero]
                      repeat (go_big_quiet_step (fail))
                      refine wpQuiet_nil ?_
                      rintro ⟨w5, hw⟩
                      dsimp only
                      replace st2 := owns_next st2 hw
                      replace own5 := owns_next own5 hw
                      replace own8' := owns_next own8' hw
                      replace BB := nextB BB hw
                      clear hw
                      have src := Lib.hid (src_erase (t := t) st2 hRR.out)
                      have one := Lib.hid (show ∀ u ∈ (lI R2).drop (t + 1), u.oneCell' = true from fun u hu => lI_one R2 u (List.mem_of_mem_drop hu))
                      have len := Lib.hid (show ((lI R2).drop (t + 1)).length = 0 * 1 by rw [List.length_drop, lI_length, hRR.out]; omega)
                      have tk := Lib.hid (own_take st2 t (by omega))
                      have hga := own_apart st2 own8' (by decide)
                      go_wp2_with (at_builtin; refine wpList_append_fits w5 rfl _ _ 30 rfl w.heap.size 3 i0 1 Try.underlying30 G0.out G2.out g4 t (t + 1) ((lI R2).take (t * 1)) rfl tk.out ⟨g4, 0, none⟩ 0 0 [] rfl rfl (fun j u hj => by simp at hj) (fun u hu => by simp at hu) (by omega) ?_; intro w6 ownN4 hgr)
                      have hnil := Lib.hid (show (lI R2).drop (t + 1) = [] from List.drop_of_length_le (by rw [lI_length, hRR.out]; exact Nat.le_refl _))
                      rw [← hnil.out] at ownN4
                      rw [take_one, lI_erase] at ownN4
                      replace own5 := own5.kept hgr (.inr (by simp [Value.ownBlock]; omega))
                      replace own8' := own8'.kept hgr (.inr hga)
                      replace BB := BB.grown hgr BB.size (fun q hq => by cases hq; exact hg4.1)
                      clear src one len tk hga hgr
                      refine wp_region_ext_tail 7 (by kernel_rfl) (by kernel_rfl) ?_
                      simp only [List.take_succ_cons, List.take_zero, List.drop_succ_cons, List.drop_zero]
                      repeat (go_big_quiet_step (fail))
                      refine wpQuiet_nil ?_
                      rintro ⟨w7, hw⟩
                      dsimp only
                      replace own5 := owns_next own5 hw
                      replace ownN4 := owns_next ownN4 hw
                      replace own8' := owns_next own8' hw
                      replace BB := nextB BB hw
                      clear hw
                      have src := Lib.hid (src_erase (t := t) own5 hCl.out)
                      have one := Lib.hid (show ∀ u ∈ (lI C).drop (t + 1), u.oneCell' = true from fun u hu => lI_one C u (List.mem_of_mem_drop hu))
                      have len := Lib.hid (show ((lI C).drop (t + 1)).length = 0 * 1 by rw [List.length_drop, lI_length, hCl.out]; omega)
                      have tk := Lib.hid (own_take own5 t (by omega))
                      have hga := own_apart own5 own8' (by decide)
                      go_wp2_with (at_builtin; refine wpList_append_fits w7 rfl _ _ 30 rfl w.heap.size 3 i0 1 Try.underlying30 G0.out G2.out g5 t (c5) ((lI C).take (t * 1)) rfl tk.out ⟨g5, t + 1, none⟩ 0 (c5 - (t + 1)) ((lI C).drop (t + 1)) rfl len.out src.out one.out (by omega) ?_; intro w8 ownN5 hgr)
                      rw [take_one, lI_erase] at ownN5
                      replace ownN4 := ownN4.kept hgr (.inr (by simp [Value.ownBlock]; omega))
                      replace own8' := own8'.kept hgr (.inr hga)
                      replace BB := BB.grown hgr BB.size (fun q hq => by cases hq; exact hg5b)
                      clear src one len tk hga hgr
                      rw [← hcut.out] at ownN4
                      rw [show S.length + 1 = (putL S (ln.1, ln.2)).length by rw [(putL_perm _ _).length_eq]; simp] at own8'
                      go_roundw
                      case rel =>
                        refine ⟨f, (t + 1) - 1, cutL R t, C.eraseIdx t, putL S (ln.1, ln.2), ?_, ?_, ?_, ?_, by omega, ?_, by omega, ?_, hT'.out, ownN4, ownN5, own8', BB⟩
                        · rfl
                        · rfl
                        · rw [cutL_length (by rw [hRl.out]; exact htm), hRl.out]
                        · rw [List.length_eraseIdx_of_lt (by rw [hCl.out]; exact htm), hCl.out]
                        · rw [(putL_perm _ _).length_eq]; simp <;> omega
                        · rw [← hrunF.out, hstep.out]
                      case measure => simp [sliceLen] <;> omega
                    · obtain rfl : c5 = t + 1 := by omega
                      refine wp_region_ext_tail 7 (by kernel_rfl) (by kernel_rfl) ?_
                      simp only [List.take_succ_cons, List.take_zero, List.drop_succ_cons, List.drop_zero]
                      repeat (go_big_quiet_step (fail))
                      refine wpQuiet_nil ?_
                      rintro ⟨w5, hw⟩
                      dsimp only
                      replace st2 := owns_next st2 hw
                      replace own5 := owns_next own5 hw
                      replace own8' := owns_next own8' hw
                      replace BB := nextB BB hw
                      clear hw
                      have src := Lib.hid (src_erase (t := t) st2 hRR.out)
                      have one := Lib.hid (show ∀ u ∈ (lI R2).drop (t + 1), u.oneCell' = true from fun u hu => lI_one R2 u (List.mem_of_mem_drop hu))
                      have len := Lib.hid (show ((lI R2).drop (t + 1)).length = 0 * 1 by rw [List.length_drop, lI_length, hRR.out]; omega)
                      have tk := Lib.hid (own_take st2 t (by omega))
                      have hga := own_apart st2 own8' (by decide)
                      go_wp2_with (at_builtin; refine wpList_append_fits w5 rfl _ _ 30 rfl w.heap.size 3 i0 1 Try.underlying30 G0.out G2.out g4 t (t + 1) ((lI R2).take (t * 1)) rfl tk.out ⟨g4, 0, none⟩ 0 0 [] rfl rfl (fun j u hj => by simp at hj) (fun u hu => by simp at hu) (by omega) ?_; intro w6 ownN4 hgr)
                      have hnil := Lib.hid (show (lI R2).drop (t + 1) = [] from List.drop_of_length_le (by rw [lI_length, hRR.out]; exact Nat.le_refl _))
                      rw [← hnil.out] at ownN4
                      rw [take_one, lI_erase] at ownN4
                      replace own5 := own5.kept hgr (.inr (by simp [Value.ownBlock]; omega))
                      replace own8' := own8'.kept hgr (.inr hga)
                      replace BB := BB.grown hgr BB.size (fun q hq => by cases hq; exact hg4.1)
                      clear src one len tk hga hgr
                      refine wp_region_ext_tail 7 (by kernel_rfl) (by kernel_rfl) ?_
                      simp only [List.take_succ_cons, List.take_zero, List.drop_succ_cons, List.drop_zero]
                      repeat (go_big_quiet_step (fail))
                      refine wpQuiet_nil ?_
                      rintro ⟨w7, hw⟩
                      dsimp only
                      replace own5 := owns_next own5 hw
                      replace ownN4 := owns_next ownN4 hw
                      replace own8' := owns_next own8' hw
                      replace BB := nextB BB hw
                      clear hw
                      have src := Lib.hid (src_erase (t := t) own5 hCl.out)
                      have one := Lib.hid (show ∀ u ∈ (lI C).drop (t + 1), u.oneCell' = true from fun u hu => lI_one C u (List.mem_of_mem_drop hu))
                      have len := Lib.hid (show ((lI C).drop (t + 1)).length = 0 * 1 by rw [List.length_drop, lI_length, hCl.out]; omega)
                      have tk := Lib.hid (own_take own5 t (by omega))
                      have hga := own_apart own5 own8' (by decide)
                      go_wp2_with (at_builtin; refine wpList_append_fits w7 rfl _ _ 30 rfl w.heap.size 3 i0 1 Try.underlying30 G0.out G2.out g5 t (t + 1) ((lI C).take (t * 1)) rfl tk.out ⟨g5, 0, none⟩ 0 0 [] rfl rfl (fun j u hj => by simp at hj) (fun u hu => by simp at hu) (by omega) ?_; intro w8 ownN5 hgr)
                      have hnil := Lib.hid (show (lI C).drop (t + 1) = [] from List.drop_of_length_le (by rw [lI_length, hCl.out]; exact Nat.le_refl _))
                      rw [← hnil.out] at ownN5
                      rw [take_one, lI_erase] at ownN5
                      replace ownN4 := ownN4.kept hgr (.inr (by simp [Value.ownBlock]; omega))
                      replace own8' := own8'.kept hgr (.inr hga)
                      replace BB := BB.grown hgr BB.size (fun q hq => by cases hq; exact hg5b)
                      clear src one len tk hga hgr
                      rw [← hcut.out] at ownN4
                      rw [show S.length + 1 = (putL S (ln.1, ln.2)).length by rw [(putL_perm _ _).length_eq]; simp] at own8'
                      go_roundw
                      case rel =>
                        refine ⟨f, (t + 1) - 1, cutL R t, C.eraseIdx t, putL S (ln.1, ln.2), ?_, ?_, ?_, ?_, by omega, ?_, by omega, ?_, hT'.out, ownN4, ownN5, own8', BB⟩
                        · rfl
                        · rfl
                        · rw [cutL_length (by rw [hRl.out]; exact htm), hRl.out]
                        · rw [List.length_eraseIdx_of_lt (by rw [hCl.out]; exact htm), hCl.out]
                        · rw [(putL_perm _ _).length_eq]; simp <;> omega
                        · rw [← hrunF.out, hstep.out]
                      case measure => simp [sliceLen] <;> omega
              · have hq : (nth R t != 1) = true := by rw [bne_iff_ne]; exact h1
                have hnx := Lib.hid (show ∀ j, j < t + 1 → nth R j ≠ 1 from fun j hj => by
                  by_cases e : j = t
                  · subst e; exact h1
                  · exact hall.out j (by omega))
                clear hall h1
                generalize nth R t = y at *
                go_wp2_with fail
                go_round
                case rel => exact ⟨t + 1, by omega, by go_num, hnx.out⟩
                case measure => simp [intOf]; omega
            · obtain rfl : t = m := by omega
              have hno := Lib.hid (runF_stop1 (f := f) (S := S) hC3.out (oneOf_none.2 fun j hj => hall.out j (by rw [hRl.out] at hj; exact hj)))
              clear hall
              go_wp2_with fail
              go_ret2
              exact ⟨B0, .inr ⟨10, .inr ⟨hR.out, by rw [← hfin.out]; exact ofF_stop (by rw [hrun.out, ← hrunF.out, hno.out]), rfl⟩, rfl⟩⟩
        · obtain rfl : m = 3 := by omega
          have hres : Hid (runF 13 xs (upTo xs.length) [] = some (R, S)) := Lib.hid (by rw [hrun.out, ← hrunF.out, runF, if_pos (by rw [hCl']; exact Nat.le_refl _)])
          obtain ⟨_, hc4⟩ := own_ints hown4
          simp only [Nat.zero_add] at hc4
          have x0 := hc4 0 (by omega)
          have x1 := hc4 1 (by omega)
          have x2 := hc4 2 (by omega)
          obtain ⟨a7, c7, rfl, hc7, hp7⟩ := own_prs hown7
          have hcase : ((nth R 0 != 1) = true) ∨ ((nth R 0 != 1) = false ∧ (nth R 1 != 1) = true) ∨ ((nth R 0 != 1) = false ∧ (nth R 1 != 1) = false ∧ (nth R 2 != 1) = true) ∨ ((nth R 0 != 1) = false ∧ (nth R 1 != 1) = false ∧ (nth R 2 != 1) = false) := by
            simp only [bne_iff_ne, bne_eq_false_iff_eq, ne_eq]
            omega
          have hyes : Hid ((nth R 0 != 1) = false → (nth R 1 != 1) = false → (nth R 2 != 1) = false → ofL xs = some S) := Lib.hid fun q0 q1 q2 => by
            rw [← hfin.out]
            unfold ofF
            rw [hres.out]
            simp only []
            rw [if_pos ⟨by simpa using q0, by simpa using q1, by simpa using q2⟩]
          have hnot : Hid (((nth R 0 != 1) = true ∨ (nth R 1 != 1) = true ∨ (nth R 2 != 1) = true) → ofL xs = none) := Lib.hid fun q => by
            rw [← hfin.out]
            unfold ofF
            rw [hres.out]
            simp only []
            rw [if_neg fun hh => by simp [hh.1, hh.2.1, hh.2.2] at q]
          clear hc4 hown4 hown5 hown7 hRl' hCl'
          generalize nth R 0 = y0 at *
          generalize nth R 1 = y1 at *
          generalize nth R 2 = y2 at *
          rcases hcase with q0 | ⟨q0, q1⟩ | ⟨q0, q1, q2⟩ | ⟨q0, q1, q2⟩
          · have hN := Lib.hid (hnot.out (.inl q0))
            go_wp2_with fail
            go_ret2
            exact ⟨B0, .inr ⟨10, .inr ⟨hR.out, hN.out, rfl⟩, rfl⟩⟩
          · have hN := Lib.hid (hnot.out (.inr (.inl q1)))
            go_wp2_with fail
            go_ret2
            exact ⟨B0, .inr ⟨10, .inr ⟨hR.out, hN.out, rfl⟩, rfl⟩⟩
          · have hN := Lib.hid (hnot.out (.inr (.inr q2)))
            go_wp2_with fail
            go_ret2
            exact ⟨B0, .inr ⟨10, .inr ⟨hR.out, hN.out, rfl⟩, rfl⟩⟩
          · have hY := Lib.hid (hyes.out q0 q1 q2)
            go_wp2_with fail
            go_ret2
            exact ⟨B0, .inl ⟨S, a7, c7, hR.out, hY.out, rfl, hp7, hc7, by omega⟩⟩
end Go.Proofs.Ytflbaadfbjpakaa
