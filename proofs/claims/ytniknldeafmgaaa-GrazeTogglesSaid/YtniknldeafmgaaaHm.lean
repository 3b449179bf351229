/- Layer 8, by the program: Round, its rows may be written to. -/
import Derived.Test.YtniknldeafmgaaaQl
namespace Go.Proofs.Ytniknldeafmgaaa
set_option linter.unusedSimpArgs false
set_option linter.unusedVariables false
open Go Go.RowKit

/-- The rows may be written to. -/
def Frz (W : World) (G : List (Nat × Nat)) : Prop := ∀ r, r < G.length → (gth G r).1 < W.heap.size ∧ W.frozen? ⟨(gth G r).1, 0, none⟩ = false
theorem Frz.next {W W' : World} {G : List (Nat × Nat)} (h : Frz W G) (B : Below W.heap.size W W') : Frz W' G := fun r hr => by
  obtain ⟨h1, h2⟩ := h r hr
  have := B.size
  exact ⟨by omega, (World.frozen?_of_block (a := ⟨(gth G r).1, 0, none⟩) (B.block _ h1)).trans h2⟩
theorem Frz.grown {W W' : World} {G : List (Nat × Nat)} {row : Option Nat} (h : Frz W G) (hg : W.grownBy W' row) (hne : ∀ r, r < G.length → some (gth G r).1 ≠ row) : Frz W' G := fun r hr => by
  obtain ⟨h1, h2⟩ := h r hr
  have := hg.size
  exact ⟨by omega, (World.frozen?_of_block (a := ⟨(gth G r).1, 0, none⟩) (hg.block _ h1 (hne r hr))).trans h2⟩
theorem Frz.snoc {W : World} {G : List (Nat × Nat)} {g c : Nat} (h : Frz W G) (h1 : g < W.heap.size) (h2 : W.frozen? ⟨g, 0, none⟩ = false) : Frz W (G ++ [(g, c)]) := fun r hr => by
  by_cases e : r < G.length
  · rw [gth_old e]
    exact h r e
  · obtain rfl : r = G.length := by simp at hr; omega
    rw [gth_new]
    exact ⟨h1, h2⟩
/-- A copy was returned, in a block of its own that may be written to. -/
def CopyF (xs : List Int) (w : World) (e : Ending) (w' : World) : Prop := ∃ g c, e = .returned (.slice (some ⟨g, 0, none⟩) xs.length c) ∧ xs.length ≤ c ∧ w.heap.size ≤ g ∧ (∀ i, i < xs.length → w'.cell? ⟨g, i, none⟩ = some (.int .i64 (nth xs i))) ∧ (g < w'.heap.size ∧ w'.frozen? ⟨g, 0, none⟩ = false) ∧ Below w.heap.size w w'
set_option maxRecDepth 100000 in
theorem copyF_any (b off n c : Nat) (xs : List Int) (w : World) (hI : Ints w (some ⟨b, off, none⟩) xs) (hl : xs.length = n) (hn : n ≤ 1000) (h0 : 0 < n) :
    Calls Try.prog 75 #[.slice (some ⟨b, off, none⟩) n c] w (CopyF xs w) := by
  have hs := Lib.hid (World.ownsRow_lit (base := w.heap.size) (e := 3) (size := 1) w #[] 0 (Nat.le_refl _) (by unfold maxLen; omega) rfl)
  have hI := Lib.hid (hI.next (b1 w (.cells #[] 3)))
  have hl := Lib.hid hl
  have qT : ∀ (w : World) (a : Option Addr) (n c : Nat), (binOp .eql 22 (.slice a n c) (.slice none 0 0)).run Try.prog w = .ok (.bool a.isNone) w := fun w a n c => run_eql_slice_nil w _ 3 a n c Try.underlying22
  go_enter Try.func75, Try.ntmps75
  go_wp2_with (at_builtin; refine wpList_copy rfl _ _ rfl w.heap.size _ rfl hs.out _ n c xs rfl hI.out hl.out (by simp) hn (by simp) ?_; intro a' c' w' hown' hg' hc' hI')
  go_ret
  obtain ⟨g, cap, e⟩ := own_pos hown' h0
  simp only [Value.slice.injEq, true_and] at e
  obtain ⟨rfl, rfl⟩ := e
  have h1 := own_ints hown'
  have hk := own_iblk hown' hl.out
  refine ⟨g, c', by rw [hl.out]; rfl, by rw [hl.out]; exact hc', (hown'.lt g rfl).1, fun i hi => ?_, ⟨(hown'.lt g rfl).2, hk.fr 0⟩, (b1 _ _).grown hg' (by simp) (fun q hq => by have := (hs.out.lt q hq).1; omega)⟩
  have := h1.2 i (by have := hl.out; omega)
  rwa [Nat.zero_add] at this
set_option maxRecDepth 100000 in
theorem listF_any (a b : Nat) (g : Nat → Nat) (w : World) (hp : IsP a b g) : Calls Try.prog 60 #[pV a b g] w (CopyF (stL a g) w) := by
  have h1 := hp.a1
  have h6 := hp.a6
  have k0 := Blk.new w 66 (pC a b g)
  have hI := ints_box k0 h6
  have hC := Lib.hid (fun c => copyF_any w.heap.size 2 a c (stL a g) _ hI (stL_len a g) (by omega) (by omega))
  replace k0 := Lib.hid k0
  replace hI := Lib.hid hI
  clear hp
  have h6' : (a : Int) ≤ 6 := by omega
  go_enter Try.func60, Try.ntmps60
  go_wp2_with (go_at_call 75; refine (hC.out _).mono ?_; rintro _ w1 ⟨B, c, rfl, hc, hB, hcell, hfz, hw1⟩)
  go_ret
  exact ⟨B, c, rfl, hc, by simp only [World.size_alloc] at hB; omega, hcell, hfz, nextB (b1 _ _) hw1⟩
/-- Rows of states were returned, each in a block of its own. -/
def RowsF (a : Nat) (L : List (Nat → Nat)) (w : World) (e : Ending) (w' : World) : Prop := ∃ v G, e = .returned (.tuple #[v, .int .i64 0]) ∧ G.length = L.length ∧ w'.ownsRow w.heap.size 22 1 v G.length (rowsV a G) ∧ TabB w.heap.size a L w' G ∧ Frz w' G ∧ Below w.heap.size w w'
set_option maxRecDepth 100000 in
set_option maxHeartbeats 4000000 in
theorem RoundF_yes (a b T : Nat) (g : Nat → Nat) (ad : Option Addr) (c : Nat) (w : World) (hs : IsS a b g) (hT : IsT a b g T) (hI : Ints w ad (stL a g)) :
    Calls Try.prog 28 #[.int .i64 (a : Int), .int .i64 (b : Int), .slice ad a c] w (RowsF a (itL a b g T) w) := by
  obtain ⟨i0, hi, hz0, hz1, hz2⟩ := info_parts infoInts
  have G0 := Lib.hid hi
  have G1 := Lib.hid hz0
  have G2 := Lib.hid hz1
  have G3 := Lib.hid hz2
  clear hi hz0 hz1 hz2
  have h1 := hT.t1
  have h2 := hT.tl
  have ha1 := hs.p.a1
  have ha := hs.p.a6
  have hb := hs.p.b6
  have hP := pastureOf_yes a b g ad c w hs hI
  have hR := Lib.hid (fun w => round_any a b g T w hs.p h1 (by omega) ((eqG_iff ha (dayI_S hs T).zr hs.zr).2 hT.eq) (fun k k1 k2 h => hT.ne k k1 k2 ((eqG_iff ha (dayI_S hs k).zr hs.zr).1 h)))
  have hat := Lib.hid (fun k (h : k < T) => itL_at a b g h)
  have hln := Lib.hid (itL_len a b g)
  have hsu := Lib.hid (fun k => itL_succ a b g k)
  have hLs := Lib.hid (fun k w => listF_any a b (dayI a b g k) w (dayI_P hs.p k))
  have hlen := Lib.hid (fun g => stL_len a g)
  have hnth := Lib.hid (fun g i (h : i < a) => stL_nth g h)
  have hl0 : Hid (itL a b g 0 = []) := Lib.hid rfl
  clear hs hT hI
  go_enter Try.func28, Try.ntmps28
  go_upto_region 2 with (go_at_call 57; refine hP.mono ?_; rintro _ w1 ⟨rfl, hw1⟩)
  have k0 := Lib.hid (Blk.new w1 66 (pC a b g))
  have B := Lib.hid (hw1.trans ((b1 w1 (.cells (pC a b g) 66)).mono hw1.size))
  clear hw1 hP
  generalize w1.alloc (.cells (pC a b g) 66) = W at *
  generalize w1.heap.size = D at *
  obtain ⟨p0, p1, p2, p3, p4, p5, p6, p7⟩ := k0.out.pc
  go_wp2_with (go_at_call 62; (with_reducible refine (hR.out _).mono ?_); rintro _ w2 ⟨ap, cp, rfl, hcp, hH, hw2⟩)
  rw [hln.out] at hcp hH ⊢
  obtain ⟨Bp, rfl, hB1, hB2⟩ := hH (by omega)
  replace B := Lib.hid (nextB B.out hw2)
  replace hB2 := Lib.hid hB2
  clear p0 p1 p2 p3 p4 p5 p6 p7 k0 hw2 hH hR
  go_loopw [10, 12, 26] (fun v _ j wr => ∃ k : Nat, k ≤ T ∧ j = .int .i64 (k : Int) ∧ ∃ G, G.length = k ∧ wr.ownsRow w2.heap.size 22 1 v k (rowsV a G) ∧ TabB w2.heap.size a (itL a b g k) wr G ∧ Frz wr G ∧ Below w2.heap.size w2 wr) (fun _ _ j _ => T - (intOf j).toNat)
  case atStart => exact ⟨0, by omega, rfl, [], rfl, World.ownsRow_nil _ _ _ _, by rw [hl0.out]; exact TabB.nil _ _ _ _, (fun r hr => by simp at hr), Below.refl _ _⟩
  case round =>
    obtain ⟨k, hk, rfl, G, hG, hown, hTb, hFz, Bk⟩ := hrel
    replace hFz := Lib.hid hFz
    obtain ⟨a1, cap1, rfl, hcap1⟩ := own_slice hown
    by_cases hlt : k < T
    · have hlt' : (k : Int) < (T : Int) := by omega
      have hgb2 := hB2.out.ext Bk
      obtain ⟨c0, c1, c2, c3, c4, c5, c6, c7⟩ := hgb2.pc (i := k) (by rw [hln.out]; exact hlt)
      rw [hat.out k hlt] at c2 c3 c4 c5 c6 c7
      have hL1 := Lib.hid (hLs.out k)
      have hsu1 := Lib.hid (hsu.out k)
      obtain ⟨f, hf⟩ : ∃ f, Hid (dayI a b g k = f) := ⟨_, Lib.hid rfl⟩
      rw [hf.out] at c2 c3 c4 c5 c6 c7 hL1 hsu1
      have hlf := Lib.hid (hlen.out f)
      have hnf := Lib.hid (fun i h => hnth.out f i h)
      have hT1 := Lib.hid (hTb.next (b1 wr (.cells (pC a b f) 66)))
      have hF1 := Lib.hid (hFz.out.next (b1 wr (.cells (pC a b f) 66)))
      have hown1 := Lib.hid (hown.alloc (.cells (pC a b f) 66))
      have kD := Lib.hid (Blk.new wr 66 (pC a b f))
      have hBk := Lib.hid (Bk.trans ((b1 wr (.cells (pC a b f) 66)).mono Bk.size))
      have hG' := Lib.hid hG
      clear hTb hown Bk hgb2 hG hFz
      go_upto_region 8 with (fail)
      clear c0 c1 c2 c3 c4 c5 c6 c7
      generalize wr.alloc (.cells (pC a b f) 66) = W4 at *
      generalize wr.heap.size = D4 at *
      obtain ⟨d0, d1, d2, d3, d4, d5, d6, d7⟩ := kD.out.pc
      have hkM : k + 1 ≤ 1000 := by omega
      have hs4 := hBk.out.size
      go_wp2_with (first
        | (go_at_call 60; (with_reducible refine (hL1.out _).mono ?_); rintro e w5 ⟨g5, c5, rfl, hc5, hg5, hx5, hf5, hb5⟩; replace hf5 := Lib.hid hf5; rw [hlf.out] at hc5 hx5 ⊢; have hown5 := owns_next hown1.out hb5; replace hx5 := Lib.hid hx5; have hs5 := hb5.size; have hc1 := Lib.hid (cell_val_new w5 (.slice (some ⟨g5, 0, none⟩) a c5) 22); replace hb5 := Lib.hid hb5)
        | (at_builtin; refine wpList_append_own _ rfl _ _ 36 rfl w2.heap.size 22 i0 (.slice none 0 0) 1 24 Try.underlying36 G0.out G1.out G2.out G3.out rfl (by decide) _ _ _ rfl (hown5.alloc _) ⟨_, 0, none⟩ 1 1 [.slice (some ⟨g5, 0, none⟩) a c5] rfl rfl hc1.out (by simp [Value.oneCell']) (by unfold maxLen; omega) (by omega) (by simp; omega) ?_; intro v' w6 hown6 hgrow _))
      have ho5 := fun q hq => (hown5.lt q hq)
      have hT5 := hT1.out.next hb5.out
      have hT6 := (hT5.next (b1 _ (.cells #[.slice (some ⟨g5, 0, none⟩) a c5] 22))).keep hgrow (fun r hr => hT5.apart (by omega) hG'.out.symm hown5 hr)
      have hx6 : ∀ i, i < a → w6.cell? ⟨g5, i, none⟩ = some (.int .i64 (f i : Int)) := fun i hi => by
        have h1 := hx5.out i hi
        rw [hnf.out i hi] at h1
        have h2 := cellB (b1 w5 (.cells #[.slice (some ⟨g5, 0, none⟩) a c5] 22)) h1
        exact hgrow.cell h2 (fun e => by
          have := (hown1.out.lt g5 e.symm).2
          omega)
      have hne5 : some g5 ≠ (Value.slice a1 k cap1).ownBlock := fun e => by
        have := (hown1.out.lt g5 e.symm).2
        omega
      have ba := b1 w5 (.cells #[.slice (some ⟨g5, 0, none⟩) a c5] 22)
      have hlt5 := Nat.lt_of_lt_of_le hf5.out.1 ba.size
      have hF6 := Lib.hid ((((hF1.out.next hb5.out).next ba).grown hgrow (fun r hr => hT5.apart (by omega) hG'.out.symm hown5 hr)).snoc (g := g5) (c := c5) (Nat.lt_of_lt_of_le hlt5 hgrow.size) ((World.frozen?_of_block (a := ⟨g5, 0, none⟩) (hgrow.block _ hlt5 hne5)).trans ((World.frozen?_of_block (a := ⟨g5, 0, none⟩) (ba.block _ hf5.out.1)).trans hf5.out.2)))
      have hz5 : ∀ r, r < G.length → (gth G r).1 < W4.heap.size := fun r hr => hT1.out.lt (by omega) hr
      have B6 := Lib.hid (((hBk.out.trans (hb5.out.mono hs4)).alloc (by omega) (.cells #[.slice (some ⟨g5, 0, none⟩) a c5] 22)).grown hgrow (by simp; omega) (fun q hq => (ho5 q hq).1))
      go_roundw
      case rel => exact ⟨k + 1, by omega, by go_num, G ++ [(g5, c5)], by rw [List.length_append, hG'.out]; rfl, by rw [rowsV_snoc]; exact hown6, by rw [hsu1.out]; exact hT6.snoc (by rw [hG'.out, hln.out]) hz5 hg5 (by omega) hc5 hx6, hF6.out, B6.out⟩
      case measure => simp [intOf]; omega
    · obtain rfl : k = T := by omega
      replace hTb := Lib.hid hTb
      replace hown := Lib.hid hown
      have hl := Lib.hid (hln.out k)
      replace hG := Lib.hid hG
      go_wp2
      go_ret2
      have hs0 := B.out.size
      exact ⟨_, G, rfl, by rw [hG.out, hl.out], by rw [hG.out]; exact owns_base hown.out hs0, ⟨fun r hr => ⟨by have := (hTb.out.1 r hr).1; omega, (hTb.out.1 r hr).2⟩, hTb.out.2⟩, hFz.out, nextB B.out Bk⟩
end Go.Proofs.Ytniknldeafmgaaa
