/- Layer 8, by the program: Round. -/
import Derived.Test.YtniknldeafmgaaaHb
namespace Go.Proofs.Ytniknldeafmgaaa
set_option linter.unusedSimpArgs false
set_option linter.unusedVariables false
open Go Go.RowKit

/-- A block and its room, of a list. -/
def gth (G : List (Nat × Nat)) (r : Nat) : Nat × Nat := G[r]?.getD (0, 0)
theorem gth_old {G : List (Nat × Nat)} {p : Nat × Nat} {r : Nat} (h : r < G.length) : gth (G ++ [p]) r = gth G r := by
  simp [gth, List.getElem?_append_left h]
theorem gth_new (G : List (Nat × Nat)) (p : Nat × Nat) : gth (G ++ [p]) G.length = p := by simp [gth]
/-- The rows as values. -/
def rowsV (n : Nat) (G : List (Nat × Nat)) : List Value := G.map fun p => .slice (some ⟨p.1, 0, none⟩) n p.2
theorem rowsV_len (n : Nat) (G : List (Nat × Nat)) : (rowsV n G).length = G.length := by simp [rowsV]
theorem rowsV_snoc (n : Nat) (G : List (Nat × Nat)) (p : Nat × Nat) : rowsV n (G ++ [p]) = rowsV n G ++ [.slice (some ⟨p.1, 0, none⟩) n p.2] := by simp [rowsV]
theorem rowsV_get {n : Nat} {G : List (Nat × Nat)} {r : Nat} (h : r < G.length) : (rowsV n G)[r]? = some (.slice (some ⟨(gth G r).1, 0, none⟩) n (gth G r).2) := by
  simp [rowsV, gth, h]
/-- Rows of bars lie in blocks of their own, not under base, each one behind the one before. -/
def TabB (base n : Nat) (l : List (Nat → Nat)) (W : World) (G : List (Nat × Nat)) : Prop :=
  (∀ r, r < G.length → base ≤ (gth G r).1 ∧ n ≤ (gth G r).2 ∧ ∀ i, i < n → W.cell? ⟨(gth G r).1, i, none⟩ = some (.int .i64 (fAt l r i : Int))) ∧
  ∀ r s, r < s → s < G.length → (gth G r).1 < (gth G s).1
theorem TabB.nil (base n : Nat) (l : List (Nat → Nat)) (W : World) : TabB base n l W [] := ⟨fun r hr => by simp at hr, fun r s _ hs => by simp at hs⟩
theorem TabB.keep {base n : Nat} {l : List (Nat → Nat)} {W W' : World} {G : List (Nat × Nat)} {row : Option Nat} (h : TabB base n l W G) (hg : W.grownBy W' row) (hne : ∀ r, r < G.length → some (gth G r).1 ≠ row) : TabB base n l W' G :=
  ⟨fun r hr => ⟨(h.1 r hr).1, (h.1 r hr).2.1, fun i hi => hg.cell ((h.1 r hr).2.2 i hi) (hne r hr)⟩, h.2⟩
theorem TabB.next {base n : Nat} {l : List (Nat → Nat)} {W W' : World} {G : List (Nat × Nat)} (h : TabB base n l W G) (B : Below W.heap.size W W') : TabB base n l W' G := h.keep (grown_below B none) (fun _ _ => by simp)
theorem TabB.lt {base n : Nat} {l : List (Nat → Nat)} {W : World} {G : List (Nat × Nat)} (h : TabB base n l W G) (hn : 0 < n) {r : Nat} (hr : r < G.length) : (gth G r).1 < W.heap.size := block_lt_of_cell ((h.1 r hr).2.2 0 hn)
theorem fAt_old {l : List (Nat → Nat)} {f : Nat → Nat} {r : Nat} (h : r < l.length) : fAt (l ++ [f]) r = fAt l r := by simp [fAt, List.getElem?_append_left h]
theorem fAt_new (l : List (Nat → Nat)) (f : Nat → Nat) : fAt (l ++ [f]) l.length = f := by simp [fAt]
theorem TabB.snoc {base n : Nat} {l : List (Nat → Nat)} {f : Nat → Nat} {W : World} {G : List (Nat × Nat)} {g c z : Nat} (h : TabB base n l W G) (hl : G.length = l.length) (hz : ∀ r, r < G.length → (gth G r).1 < z) (hg : z ≤ g) (hb : base ≤ g) (hc : n ≤ c)
    (hcell : ∀ i, i < n → W.cell? ⟨g, i, none⟩ = some (.int .i64 (f i : Int))) : TabB base n (l ++ [f]) W (G ++ [(g, c)]) := by
  constructor
  · intro r hr
    by_cases e : r < G.length
    · rw [gth_old e, fAt_old (by omega)]
      exact h.1 r e
    · obtain rfl : r = G.length := by simp at hr; omega
      rw [gth_new, hl, fAt_new]
      exact ⟨hb, hc, hcell⟩
  · intro r s hrs hs
    by_cases e : s < G.length
    · rw [gth_old e, gth_old (by omega)]
      exact h.2 r s hrs e
    · obtain rfl : s = G.length := by simp at hs; omega
      rw [gth_new, gth_old hrs]
      have := hz r hrs
      show _ < g
      omega
/-- No row lies in the block of the table. -/
theorem TabB.apart {base base' n k : Nat} {e : TypeId} {l : List (Nat → Nat)} {W : World} {G : List (Nat × Nat)} {v : Value} (h : TabB base n l W G) (hn : 0 < n) (hk : k = G.length) (ho : W.ownsRow base' e 1 v k (rowsV n G)) {r : Nat} (hr : r < G.length) : some (gth G r).1 ≠ v.ownBlock := by
  obtain ⟨g, c, rfl⟩ := own_pos ho (by omega)
  intro hh
  simp only [Value.ownBlock, Option.some.injEq] at hh
  have h1 := (h.1 r hr).2.2 0 hn
  rw [hh, ho.cellAt 0 (by omega), rowsV_get (by omega)] at h1
  simp at h1
theorem own_slice {w : World} {base n size : Nat} {e : TypeId} {v : Value} {xs : List Value} (h : w.ownsRow base e size v n xs) : ∃ a c, v = .slice a n c ∧ n ≤ c := by
  rcases h.2 with ⟨rfl, h2⟩ | ⟨gg, cap, cur, rfl, _, _, hcap, _⟩
  · exact ⟨none, 0, by rw [h2], by omega⟩
  · exact ⟨_, cap, rfl, hcap⟩
/-- Rows of states were returned, each in a block of its own. -/
def RowsR (a : Nat) (L : List (Nat → Nat)) (w : World) (e : Ending) (w' : World) : Prop := ∃ v G, e = .returned (.tuple #[v, .int .i64 0]) ∧ G.length = L.length ∧ w'.ownsRow w.heap.size 22 1 v G.length (rowsV a G) ∧ TabB w.heap.size a L w' G ∧ Below w.heap.size w w'
set_option maxRecDepth 100000 in
set_option maxHeartbeats 4000000 in
theorem Round_yes (a b T : Nat) (g : Nat → Nat) (ad : Option Addr) (c : Nat) (w : World) (hs : IsS a b g) (hT : IsT a b g T) (hI : Ints w ad (stL a g)) :
    Calls Try.prog 28 #[.int .i64 (a : Int), .int .i64 (b : Int), .slice ad a c] w (RowsR a (itL a b g T) w) := by
  obtain ⟨i0, hi, hz0, hz1, hz2⟩ := info_parts infoInts
  have G0 := Lib.hid hi
  have G1 := Lib.hid hz0
  have G2 := Lib.hid hz1
  have G3 := Lib.hid hz2
  clear hi hz0 hz1 hz2
  have h1 := hT.t1
  have h2 := hT.tl
  have ha1 := hs.p.a1
  have ha := hs.p.a6
  have hb := hs.p.b6
  have hP := pastureOf_yes a b g ad c w hs hI
  have hR := Lib.hid (fun w => round_any a b g T w hs.p h1 (by omega) ((eqG_iff ha (dayI_S hs T).zr hs.zr).2 hT.eq) (fun k k1 k2 h => hT.ne k k1 k2 ((eqG_iff ha (dayI_S hs k).zr hs.zr).1 h)))
  have hat := Lib.hid (fun k (h : k < T) => itL_at a b g h)
  have hln := Lib.hid (itL_len a b g)
  have hsu := Lib.hid (fun k => itL_succ a b g k)
  have hLs := Lib.hid (fun k w => list_any a b (dayI a b g k) w (dayI_P hs.p k))
  have hlen := Lib.hid (fun g => stL_len a g)
  have hnth := Lib.hid (fun g i (h : i < a) => stL_nth g h)
  have hl0 : Hid (itL a b g 0 = []) := Lib.hid rfl
  clear hs hT hI
  go_enter Try.func28, Try.ntmps28
  go_upto_region 2 with (go_at_call 57; refine hP.mono ?_; rintro _ w1 ⟨rfl, hw1⟩)
  have k0 := Lib.hid (Blk.new w1 66 (pC a b g))
  have B := Lib.hid (hw1.trans ((b1 w1 (.cells (pC a b g) 66)).mono hw1.size))
  clear hw1 hP
  generalize w1.alloc (.cells (pC a b g) 66) = W at *
  generalize w1.heap.size = D at *
  obtain ⟨p0, p1, p2, p3, p4, p5, p6, p7⟩ := k0.out.pc
  go_wp2_with (go_at_call 62; (with_reducible refine (hR.out _).mono ?_); rintro _ w2 ⟨ap, cp, rfl, hcp, hH, hw2⟩)
  rw [hln.out] at hcp hH ⊢
  obtain ⟨Bp, rfl, hB1, hB2⟩ := hH (by omega)
  replace B := Lib.hid (nextB B.out hw2)
  replace hB2 := Lib.hid hB2
  clear p0 p1 p2 p3 p4 p5 p6 p7 k0 hw2 hH hR
  go_loopw [10, 12, 26] (fun v _ j wr => ∃ k : Nat, k ≤ T ∧ j = .int .i64 (k : Int) ∧ ∃ G, G.length = k ∧ wr.ownsRow w2.heap.size 22 1 v k (rowsV a G) ∧ TabB w2.heap.size a (itL a b g k) wr G ∧ Below w2.heap.size w2 wr) (fun _ _ j _ => T - (intOf j).toNat)
  case atStart => exact ⟨0, by omega, rfl, [], rfl, World.ownsRow_nil _ _ _ _, by rw [hl0.out]; exact TabB.nil _ _ _ _, Below.refl _ _⟩
  case round =>
    obtain ⟨k, hk, rfl, G, hG, hown, hTb, Bk⟩ := hrel
    obtain ⟨a1, cap1, rfl, hcap1⟩ := own_slice hown
    by_cases hlt : k < T
    · have hlt' : (k : Int) < (T : Int) := by omega
      have hgb2 := hB2.out.ext Bk
      obtain ⟨c0, c1, c2, c3, c4, c5, c6, c7⟩ := hgb2.pc (i := k) (by rw [hln.out]; exact hlt)
      rw [hat.out k hlt] at c2 c3 c4 c5 c6 c7
      have hL1 := Lib.hid (hLs.out k)
      have hsu1 := Lib.hid (hsu.out k)
      obtain ⟨f, hf⟩ : ∃ f, Hid (dayI a b g k = f) := ⟨_, Lib.hid rfl⟩
      rw [hf.out] at c2 c3 c4 c5 c6 c7 hL1 hsu1
      have hlf := Lib.hid (hlen.out f)
      have hnf := Lib.hid (fun i h => hnth.out f i h)
      have hT1 := Lib.hid (hTb.next (b1 wr (.cells (pC a b f) 66)))
      have hown1 := Lib.hid (hown.alloc (.cells (pC a b f) 66))
      have kD := Lib.hid (Blk.new wr 66 (pC a b f))
      have hBk := Lib.hid (Bk.trans ((b1 wr (.cells (pC a b f) 66)).mono Bk.size))
      have hG' := Lib.hid hG
      clear hTb hown Bk hgb2 hG
      go_upto_region 8 with (fail)
      clear c0 c1 c2 c3 c4 c5 c6 c7
      generalize wr.alloc (.cells (pC a b f) 66) = W4 at *
      generalize wr.heap.size = D4 at *
      obtain ⟨d0, d1, d2, d3, d4, d5, d6, d7⟩ := kD.out.pc
      have hkM : k + 1 ≤ 1000 := by omega
      have hs4 := hBk.out.size
      go_wp2_with (first
        | (go_at_call 60; (with_reducible refine (hL1.out _).mono ?_); rintro e w5 ⟨g5, c5, rfl, hc5, hg5, hx5, hb5⟩; rw [hlf.out] at hc5 hx5 ⊢; have hown5 := owns_next hown1.out hb5; replace hx5 := Lib.hid hx5; have hs5 := hb5.size; have hc1 := Lib.hid (cell_val_new w5 (.slice (some ⟨g5, 0, none⟩) a c5) 22); replace hb5 := Lib.hid hb5)
        | (at_builtin; refine wpList_append_own _ rfl _ _ 36 rfl w2.heap.size 22 i0 (.slice none 0 0) 1 24 Try.underlying36 G0.out G1.out G2.out G3.out rfl (by decide) _ _ _ rfl (hown5.alloc _) ⟨_, 0, none⟩ 1 1 [.slice (some ⟨g5, 0, none⟩) a c5] rfl rfl hc1.out (by simp [Value.oneCell']) (by unfold maxLen; omega) (by omega) (by simp; omega) ?_; intro v' w6 hown6 hgrow _))
      have ho5 := fun q hq => (hown5.lt q hq)
      have hT5 := hT1.out.next hb5.out
      have hT6 := (hT5.next (b1 _ (.cells #[.slice (some ⟨g5, 0, none⟩) a c5] 22))).keep hgrow (fun r hr => hT5.apart (by omega) hG'.out.symm hown5 hr)
      have hx6 : ∀ i, i < a → w6.cell? ⟨g5, i, none⟩ = some (.int .i64 (f i : Int)) := fun i hi => by
        have h1 := hx5.out i hi
        rw [hnf.out i hi] at h1
        have h2 := cellB (b1 w5 (.cells #[.slice (some ⟨g5, 0, none⟩) a c5] 22)) h1
        exact hgrow.cell h2 (fun e => by
          have := (hown1.out.lt g5 e.symm).2
          omega)
      have hz5 : ∀ r, r < G.length → (gth G r).1 < W4.heap.size := fun r hr => hT1.out.lt (by omega) hr
      have B6 := Lib.hid (((hBk.out.trans (hb5.out.mono hs4)).alloc (by omega) (.cells #[.slice (some ⟨g5, 0, none⟩) a c5] 22)).grown hgrow (by simp; omega) (fun q hq => (ho5 q hq).1))
      go_roundw
      case rel => exact ⟨k + 1, by omega, by go_num, G ++ [(g5, c5)], by rw [List.length_append, hG'.out]; rfl, by rw [rowsV_snoc]; exact hown6, by rw [hsu1.out]; exact hT6.snoc (by rw [hG'.out, hln.out]) hz5 hg5 (by omega) hc5 hx6, B6.out⟩
      case measure => simp [intOf]; omega
    · obtain rfl : k = T := by omega
      replace hTb := Lib.hid hTb
      replace hown := Lib.hid hown
      have hl := Lib.hid (hln.out k)
      replace hG := Lib.hid hG
      go_wp2
      go_ret2
      have hs0 := B.out.size
      exact ⟨_, G, rfl, by rw [hG.out, hl.out], by rw [hG.out]; exact owns_base hown.out hs0, ⟨fun r hr => ⟨by have := (hTb.out.1 r hr).1; omega, (hTb.out.1 r hr).2⟩, hTb.out.2⟩, nextB B.out Bk⟩
theorem Round_no (a b : Int) (xs : List Int) (ad : Option Addr) (n c : Nat) (w : World) (hI : Ints w ad xs) (hl : xs.length = n) (h : ¬ StP a b xs) :
    Calls Try.prog 28 #[.int .i64 a, .int .i64 b, .slice ad n c] w (ErrL 2 w) := by
  have hP := pastureOf_no a b xs ad n c w hI hl h
  clear h hI hl
  go_enter Try.func28, Try.ntmps28
  go_wp2_with (go_at_call 57; refine hP.mono ?_; rintro _ w1 ⟨rfl, hw1⟩)
  go_ret2
  exact Ret.mk rfl (hw1.trans ((b1 w1 _).mono hw1.size))
end Go.Proofs.Ytniknldeafmgaaa
