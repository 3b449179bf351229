/- BrandsCatalan: Count is the Catalan number, and the number of brands that flips reach: the walk. -/
import Derived.Test.YtkbdclladfjmcaaHb
import Derived.Test.YtkbdclladfjmcaaHc
import Derived.Test.YtkbdclladfjmcaaHe
namespace Go.Proofs.Ytkbdclladfjmcaa
open Go Go.RowKit

theorem co_facts : ∀ m : Fin 10, (∀ t : Fin (m.val + 2), 0 ≤ co (2 * m.val + 2) t.val ∧ co (2 * m.val + 2) t.val ≤ 10000000) ∧ (co (2 * m.val + 2) (m.val + 1)).tdiv ((m.val : Int) + 2) = catT (m.val + 1) := by decide +kernel
theorem cat_small : ∀ m : Fin 5, catT (m.val + 1) = (catS (m.val + 3) : Nat) := by decide +kernel
theorem infoPrs : (Try.prog.info? 27).map (fun i => (i.zero, i.size, i.bytes)) = some (some (.slice none 0 0), 1, 24) := by kernel_rfl
theorem own_slice {W : World} {base n size : Nat} {e : TypeId} {v : Value} {xs : List Value} (h : W.ownsRow base e size v n xs) : ∃ a c, v = .slice a n c ∧ n ≤ c := by
  rcases h.2 with ⟨rfl, h2⟩ | ⟨g, cap, cur, rfl, hg, hh, hcap, r⟩
  · exact ⟨none, 0, by rw [h2], by omega⟩
  · exact ⟨_, cap, rfl, hcap⟩
theorem own_one {W : World} {base : Nat} {e : TypeId} {v : Value} (hb : base ≤ W.heap.size) : (W.alloc (.cells #[v] e)).ownsRow base e 1 (.slice (some ⟨W.heap.size, 0, none⟩) 1 1) 1 [v] :=
  ⟨by simp, .inr ⟨W.heap.size, 1, #[v], rfl, hb, heap_alloc_new W _, Nat.le_refl _, by decide, by simp, by simp⟩⟩
theorem fan_snoc {n t : Nat} (h : t < n - 3) : cP ((fanL n).take t) ++ [.int .i64 0, .int .i64 ((t : Int) + 2)] = cP ((fanL n).take (t + 1)) := by
  have e : (fanL n).take (t + 1) = (fanL n).take t ++ [((0 : Int), (t : Int) + 2)] := by
    rw [List.take_add_one]
    congr 1
    simp [fanL, h]
  rw [e, cP_append]
  rfl
theorem steps_le {n t : Nat} {met : List (List (Int × Int))} : ∀ i, (stepsM n t met i).length ≤ met.length + i := by
  intro i
  induction i with
  | zero => exact Nat.le_refl _
  | succ i ih =>
    rw [stepsM, stepM]
    split
    · omega
    · simp; omega
def OwnX (q : Nat) (X : List (Int × Int)) (w : World) (e : Ending) (w' : World) : Prop :=
  ∃ a c, e = .returned (.tuple #[.slice a q c, .int .i64 0]) ∧ w'.ownsRow w.heap.size 29 2 (.slice a q c) q (cP X) ∧ q ≤ c ∧ Below w.heap.size w w'
set_option maxRecDepth 100000 in
set_option maxHeartbeats 4000000 in
theorem catalan_law (s : Nat) (w : World) (hs : s ≤ 255) :
    Calls Try.prog 3 #[.int .u8 s] w (Ret (.bool true) w) := by
  obtain ⟨m, hm, hm10⟩ : ∃ m : Nat, s % 10 = m ∧ m < 10 := ⟨s % 10, rfl, Nat.mod_lt _ (by omega)⟩
  obtain ⟨n, hn⟩ : ∃ n, n = m + 3 := ⟨_, rfl⟩
  have hmI : 3 + (s : Int) % 10 = (n : Int) := by omega
  have C := Lib.hid (fun W => Count_in n W (by omega) (by omega))
  obtain ⟨k1, k2⟩ := co_facts ⟨m, hm10⟩
  simp only [] at k1 k2
  have CH := Lib.hid (fun W => show Calls Try.prog 5 #[.int .i64 (2 * (n : Int) - 4), .int .i64 ((n : Int) - 2)] W (Only (.int .i64 (co (2 * m + 2) (m + 1))) W) from by
    have := choose_any (2 * m + 2) (m + 1) W (by omega) (by omega) (fun t ht => k1 ⟨t, by omega⟩)
    rwa [show ((2 * m + 2 : Nat) : Int) = 2 * (n : Int) - 4 by omega, show ((m + 1 : Nat) : Int) = (n : Int) - 2 by omega] at this)
  rw [show (m : Int) + 2 = (n : Int) - 1 by omega, show m + 1 = n - 2 by omega] at k2
  rw [show m + 1 = n - 2 by omega] at CH
  generalize co (2 * m + 2) (n - 2) = cc at *
  have hk := Lib.hid k2
  have h3 : 3 ≤ n := by omega
  have h12 : n ≤ 12 := by omega
  have hsm : n ≤ 7 → catT (n - 2) = (catS n : Nat) := fun h => by
    have := cat_small ⟨m, by omega⟩
    rwa [show m + 1 = n - 2 by omega, ← hn] at this
  replace hsm := Lib.hid hsm
  have hms : (s : Int) % 10 = (m : Int) := by omega
  have hmI : (3 : Int) + (m : Int) = (n : Int) := by omega
  clear k1 k2 hn hm
  have hne : (catT (n - 2) != cc.tdiv ((n : Int) - 1)) = false := by rw [hk.out]; simp
  have hwr : wrap64 (cc.tdiv ((n : Int) - 1)) = cc.tdiv ((n : Int) - 1) := by
    rw [hk.out]
    have : ∀ m : Fin 10, wrap64 (catT (m.val + 1)) = catT (m.val + 1) := by decide +kernel
    have := this ⟨n - 3, by omega⟩
    simpa [show n - 3 + 1 = n - 2 by omega] using this
  rw [← hwr] at hne
  clear hwr
  have hn1 : ((n : Int) - 1 == 0) = false := by rw [beq_eq_false_iff_ne]; omega
  obtain ⟨i0, hi0, hz0, hz1, hz2⟩ := info_parts infoPair
  have G0 := Lib.hid hi0
  have G1 := Lib.hid hz0
  have G2 := Lib.hid hz1
  have G3 := Lib.hid hz2
  clear hi0 hz0 hz1 hz2
  obtain ⟨j0, hi0, hz0, hz1, hz2⟩ := info_parts infoPrs
  have P0 := Lib.hid hi0
  have P1 := Lib.hid hz0
  have P2 := Lib.hid hz1
  have P3 := Lib.hid hz2
  clear hi0 hz0 hz1 hz2
  by_cases h7 : n ≤ 7
  · obtain ⟨hm1, hm2⟩ := met_all h3 h7
    have hmb := Lib.hid (met_brand h3 h7 (fun s hs => (hm1 s hs).1))
    have hcs := hsm.out h7
    rw [hcs] at C hne
    have hc42 : catS n ≤ 42 := by unfold catS; repeat' split
                                  all_goals omega
    generalize catS n = cS at *
    replace hm1 := Lib.hid hm1
    replace hm2 := Lib.hid hm2
    clear hcs hk
    clear hsm
    go_enter Try.func3, Try.ntmps3
    go_wp2_with (first
      | (go_at_call 4; refine (C.out _).mono ?_; rintro e w1 ⟨rfl, rfl⟩)
      | (go_at_call 5; refine (CH.out _).mono ?_; rintro e w1 ⟨rfl, rfl⟩))
    go_loopw [6, 7] (fun v i wr => ∃ t : Nat, t ≤ n - 3 ∧ i = .int .i64 (t + 2 : Nat) ∧ wr.ownsRow w.heap.size 29 2 v t (cP ((fanL n).take t)) ∧ Below w.heap.size w wr) (fun _ i _ => n - (intOf i).toNat)
    case atStart => exact ⟨0, by omega, rfl, World.ownsRow_nil _ _ _ _, Below.refl _ _⟩
    case round =>
      obtain ⟨t, ht, rfl, hown, B0⟩ := hrel
      by_cases hlt : t < n - 3
      · have hs := Lib.hid (show cP ((fanL n).take t) ++ [.int .i64 0, .int .i64 ((t : Int) + 2)] = cP ((fanL n).take (t + 1)) from fan_snoc hlt)
        have hsz := B0.size
        have B1 := B0.alloc hsz (.cells #[.int .i64 0, .int .i64 ((t : Int) + 2)] 29)
        go_wp2_with (at_builtin; refine wpList_append_own _ rfl _ _ 27 rfl w.heap.size 29 i0 (.agg #[.int .i64 0, .int .i64 0]) 2 16 Try.underlying27 G0.out G1.out G2.out G3.out rfl (by decide) _ _ _ rfl (hown.alloc _) ⟨_, 0, none⟩ 1 1 [.int .i64 0, .int .i64 ((t : Int) + 2)] rfl rfl (cell_two_new _ _ _ _) (by simp [Value.oneCell']) (by unfold maxLen; omega) (by omega) (by simp; omega) ?_; intro v' w2 hown2 hgrow _; rw [hs.out] at hown2)
        change (wr.alloc _).grownBy w2 u6.ownBlock at hgrow
        have B2 := B1.grown hgrow (by simp; omega) (fun q hq => (hown.lt q hq).1)
        go_roundw
        case rel => exact ⟨t + 1, by omega, by go_num, hown2, B2⟩
        case measure => simp [intOf]; omega
      · obtain rfl : t = n - 3 := by omega
        rw [show (fanL n).take (n - 3) = fanL n from List.take_of_length_le (by simp [fanL])] at hown
        have hfl : Hid ((fanL n).length = n - 3) := Lib.hid (by simp [fanL])
        obtain ⟨aF, cF, rfl, hcF⟩ := own_slice hown
        generalize hq : n - 3 = q at *
        have hR0 : Rec wr q [.slice aF q cF] (metM n 0) := ⟨rfl, fun j hj => by
          obtain rfl : j = 0 := by simpa [metM] using hj
          exact ⟨aF, cF, rfl, hcF, hfl.out, own_base hown (Nat.zero_le _)⟩⟩
        have hsz := B0.size
        have O0 := own_one (W := wr) (base := w.heap.size) (e := 27) (v := .slice aF q cF) hsz
        have R0 := hR0.next (b1 wr (.cells #[.slice aF q cF] 27))
        have B1 := B0.alloc hsz (.cells #[.slice aF q cF] 27)
        clear hR0 hown B0
        go_wp2_with fail
        generalize wr.alloc (.cells #[.slice aF q cF] 27) = W1 at *
        go_loopw [8, 9] (fun v i W => ∃ (t : Nat) (V : List Value), t ≤ cS ∧ i = .int .i64 t ∧ W.ownsRow w.heap.size 27 1 v (metM n t).length V ∧ Rec W q V (metM n t) ∧ Below w.heap.size w W) (fun _ i _ => cS - (intOf i).toNat)
        case atStart => exact ⟨0, _, by omega, rfl, O0, R0, B1⟩
        case round =>
          clear O0 R0 B1
          obtain ⟨t, V, ht, rfl, hown, hR, B0⟩ := hrel
          by_cases hlt : t < cS
          · obtain ⟨l1, l2⟩ := hm1.out t hlt
            have hbr := Lib.hid (hmb.out t ht)
            have hst := Lib.hid (steps_brand (hmb.out t ht) l1)
            have hso := Lib.hid (steps_old (n := n) (t := t) (met := metM n t) l1)
            have hsl := Lib.hid (steps_len (n := n) (t := t) (met := metM n t))
            have hsu := Lib.hid (steps_le (n := n) (t := t) (met := metM n t))
            have hmt : Hid (stepsM n t (metM n t) 0 = metM n t) := Lib.hid rfl
            have hmn : Hid (stepsM n t (metM n t) q = metM n (t + 1)) := Lib.hid (by rw [← hq]; rfl)
            obtain ⟨g, cv, rfl⟩ := own_pos hown (by omega)
            generalize metM n t = M0 at *
            generalize hll : M0.length = l at *
            have i0 : (t : Int) < (l : Int) := by omega
            have i1 : (l : Int) ≤ (cS : Int) := by omega
            replace hll := Lib.hid hll
            go_wp2_with fail
            have hz0 : (stepsM n t M0 0).length = l := hll.out
            have hR' : Rec _ q V (stepsM n t M0 0) := hR
            clear hR
            go_loopw [8, 10] (fun v i W => ∃ (j : Nat) (V : List Value), j ≤ q ∧ i = .int .i64 j ∧ W.ownsRow w.heap.size 27 1 v (stepsM n t M0 j).length V ∧ Rec W q V (stepsM n t M0 j) ∧ Below w.heap.size w W) (fun _ i _ => q - (intOf i).toNat)
            case atStart => exact ⟨0, V, by omega, rfl, by rw [hz0]; exact hown, hR', B0⟩
            case round =>
              clear hown hR' B0
              obtain ⟨j, V, hj, rfl, hown, hR, B0⟩ := hrel
              by_cases hjq : j < q
              · have hsj := Lib.hid (show stepsM n t M0 (j + 1) = stepM n t (stepsM n t M0 j) j from rfl)
                have hlj := hsl.out j
                have huj := hsu.out j
                obtain ⟨aB, cB, v1, v2, v3, v4⟩ := hR.2 t (by omega)
                have hBr : BrandP n ((stepsM n t M0 j).getD t []) := hst.out j (by omega) _ (by
                  rw [List.getD_eq_getElem?_getD, List.getElem?_eq_getElem (by omega)]
                  exact List.getElem_mem _)
                generalize hMM : stepsM n t M0 j = M at *
                clear hMM
                obtain ⟨g, cv, rfl⟩ := own_pos hown (by omega)
                have hcell := hown.cellAt t (by omega)
                rw [v1] at hcell
                generalize hLL : M.getD t [] = LL at *
                have hPr : Prs wr aB LL := by
                  have v4' := v4
                  rw [← v3] at v4'
                  obtain ⟨a', c', e', _, hp'⟩ := own_prs v4'
                  cases e'
                  exact hp'
                obtain ⟨X, hXe⟩ : ∃ X, Hid (flipL n LL j = X) := ⟨_, Lib.hid rfl⟩
                have hfl2 := flipL_length n LL j (by omega)
                rw [v3, hXe.out] at hfl2
                have FO := Lib.hid ((Flip_own n aB q cB LL j wr hPr v3 v2 hBr hjq (flip_facts hBr (by omega)).2.1).mono fun e w' ⟨a, c, h1, h2, h3, h4⟩ => (show OwnX q X wr e w' from ⟨a, c, by rw [h1, v3], by rw [v3, hXe.out] at h2; exact h2, by omega, h4⟩))
                have hsm := Lib.hid (show stepM n t M j = if X ∈ M then M else M ++ [X] by rw [← hXe.out, ← hLL]; rfl)
                replace hfl2 := Lib.hid hfl2
                replace v1 := Lib.hid v1
                replace v3 := Lib.hid v3
                clear v4 hPr hXe hBr
                have i0 : (0 : Int) ≤ (t : Int) := by omega
                generalize hMl : M.length = k at *
                have i1 : (t : Int) < (k : Int) := by omega
                replace hMl := Lib.hid hMl
                go_wp2_with fail
                refine FO.out.mono ?_
                rintro e w5 ⟨ax, cx, rfl, ox, hcx, hb5⟩
                dsimp only
                have O5 := own_below hown hb5
                have R5 := hR.next hb5
                have B5 := nextB B0 hb5
                have oX := own_base ox (Nat.zero_le _)
                have pX : Prs w5 ax X := by
                  have v := ox
                  rw [← hfl2.out] at v
                  obtain ⟨a', c', e', _, hp'⟩ := own_prs v
                  cases e'
                  exact hp'
                clear FO ox hR hown B0 hcell hb5
                go_wp2_with fail
                have C0 := Below.refl w5.heap.size w5
                have D0 : Hid (false = true ↔ X ∈ M.take 0) := Lib.hid (by simp)
                go_loopw [13, 14] (fun b_ s_ W => ∃ (s : Nat) (b : Bool), s ≤ k ∧ s_ = .int .i64 s ∧ b_ = .bool b ∧ Hid (b = true ↔ X ∈ M.take s) ∧ Below w5.heap.size w5 W) (fun _ s_ _ => k - (intOf s_).toNat)
                case atStart => exact ⟨0, false, by omega, rfl, rfl, D0, C0⟩
                case round =>
                  clear C0 D0
                  obtain ⟨s, b, hs, rfl, rfl, hb, C0⟩ := hrel
                  by_cases hsk : s < k
                  · have hsI : (s : Int) < (k : Int) := by omega
                    have hsM : s < M.length := by rw [hMl.out]; exact hsk
                    cases b
                    · obtain ⟨aR, cR, x1, x2, x3, x4⟩ := R5.2 s hsM
                      have y0 := O5.cellAt s (by omega)
                      rw [x1] at y0
                      replace y0 := cellB C0 y0
                      have hn2 : Hid (∀ b2 : Bool, b2 = decide (M.getD s [] = X) → (b2 = true ↔ X ∈ M.take (s + 1))) := Lib.hid (fun b2 h => by
                        rw [h, decide_eq_true_eq, List.take_succ_eq_append_getElem hsM, List.mem_append, List.mem_singleton, ← hb.out, List.getD_eq_getElem?_getD, List.getElem?_eq_getElem hsM]
                        simp [eq_comm])
                      have pR : Prs w5 aR (M.getD s []) := by
                        have v := x4
                        rw [← x3] at v
                        obtain ⟨a', c', e', _, hp'⟩ := own_prs v
                        cases e'
                        exact hp'
                      have PP := Lib.hid (fun W (hW : Below w5.heap.size w5 W) => pairs_any aR ax q q cR cx (M.getD s []) X W (pR.next hW) (pX.next hW) x3 hfl2.out (by omega) (by omega))
                      generalize decide (M.getD s [] = X) = bb at *
                      have hn3 := Lib.hid (hn2.out bb rfl)
                      clear hn2 hb x1 x2 x3 x4 pR
                      go_wp2_with (go_at_call 8; refine (PP.out _ C0).mono ?_; rintro e w6 ⟨rfl, hb6⟩)
                      go_roundw
                      case rel => first | exact ⟨s + 1, bb, by omega, by go_num, rfl, hn3, nextB C0 hb6⟩ | ((repeat apply Exists.intro); exact ⟨⟨s + 1, bb, by omega, by go_num, rfl, hn3, nextB C0 hb6⟩, rfl⟩)
                      case measure => simp [intOf]; omega
                    · have hn2 : Hid (true = true ↔ X ∈ M.take (s + 1)) := Lib.hid (by
                        have := hb.out
                        simp only [true_iff] at this ⊢
                        rw [List.take_succ_eq_append_getElem hsM]
                        exact List.mem_append_left _ this)
                      clear hb
                      go_wp2_with fail
                      go_roundw
                      case rel => exact ⟨s + 1, true, by omega, by go_num, rfl, hn2, C0⟩
                      case measure => simp [intOf]; omega
                  · have hT : M.take s = M := List.take_of_length_le (by rw [hMl.out]; omega)
                    have hb' := hb.out
                    rw [hT] at hb'
                    obtain rfl : s = k := by omega
                    have O6 := own_below O5 C0
                    have R6 := R5.next C0
                    have B6 := nextB B5 C0
                    have oX6 := own_below oX C0
                    clear O5 R5 oX pX hb hT C0 B5
                    have hsz := B6.size
                    cases b
                    · have hnX : X ∉ M := fun h => by have := hb'.2 h; cases this
                      have e1 := Lib.hid (show stepsM n t M0 (j + 1) = M ++ [X] by rw [hsj.out, hsm.out, if_neg hnX])
                      have A1 := b1 wr (.cells #[.slice ax q cx] 27)
                      have hO2 := O6.alloc (.cells #[.slice ax q cx] 27)
                      have hR2 := (R6.next A1).snoc hfl2.out hcx (own_below oX6 A1)
                      have hql := O6.lt
                      clear hb' hnX
                      go_wp2_with (at_builtin; refine wpList_append_own _ rfl _ _ 30 rfl w.heap.size 27 j0 (.slice none 0 0) 1 24 Try.underlying30 P0.out P1.out P2.out P3.out rfl (by decide) _ _ _ rfl hO2 ⟨_, 0, none⟩ 1 1 [.slice ax q cx] rfl rfl (cell_val_new _ _ _) (by simp [Value.oneCell']) (by unfold maxLen; omega) (by omega) (by simp; omega) ?_; intro v' w7 hown2 hgrow _)
                      have hR3 := hR2.grown hO2 hgrow
                      have B7 := (B6.alloc hsz (.cells #[.slice ax q cx] 27)).grown hgrow (by simp; omega) (fun q hq => (hql q hq).1)
                      go_roundw
                      case rel => (repeat apply Exists.intro); exact ⟨⟨j + 1, _, by omega, by go_num, by rw [e1.out, List.length_append, hMl.out]; exact hown2, by rw [e1.out]; exact hR3, B7⟩, rfl⟩
                      case measure => simp [intOf]; omega
                    · have e1 := Lib.hid (show stepsM n t M0 (j + 1) = M by rw [hsj.out, hsm.out, if_pos (hb'.1 rfl)])
                      clear hb'
                      go_wp2_with fail
                      go_roundw
                      case rel => exact ⟨j + 1, V, by omega, by go_num, by rw [e1.out, hMl.out]; exact O6, by rw [e1.out]; exact R6, B6⟩
                      case measure => simp [intOf]; omega
              · obtain rfl : j = q := by omega
                rw [hmn.out] at hown hR
                go_wp2_with fail
                go_roundw
                case rel => exact ⟨t + 1, V, by omega, by go_num, hown, hR, B0⟩
                case measure => simp [intOf]; omega
          · obtain rfl : t = cS := by omega
            rw [hm2.out] at hown
            obtain ⟨av, cv, rfl, _⟩ := own_slice hown
            go_wp2_with (go_at_call 6; refine (alive_any _).mono ?_; rintro e w9 ⟨rfl, hb9⟩)
            go_ret
            exact Ret.mk rfl (nextB B0 hb9)
  · have h8 : 7 < n := by omega
    go_enter Try.func3, Try.ntmps3
    go_wp2_with (first
      | (go_at_call 4; refine (C.out _).mono ?_; rintro e w1 ⟨rfl, rfl⟩)
      | (go_at_call 5; refine (CH.out _).mono ?_; rintro e w1 ⟨rfl, rfl⟩)
      | (go_at_call 6; refine (alive_any _).mono ?_; rintro e w9 ⟨rfl, hb9⟩))
    go_ret
    exact Ret.mk rfl hb9
end Go.Proofs.Ytkbdclladfjmcaa
