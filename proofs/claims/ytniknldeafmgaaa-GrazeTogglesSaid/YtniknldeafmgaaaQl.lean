/- Layer 8, the specification: Round. -/
import Derived.Test.YtniknldeafmgaaaQk
namespace Go.Proofs.Ytniknldeafmgaaa
set_option linter.unusedSimpArgs false
set_option linter.unusedVariables false
open Go Go.RowKit

theorem ints_cells {W : World} {B a : Nat} {f : Nat → Nat} (h : ∀ i, i < a → W.cell? ⟨B, i, none⟩ = some (.int .i64 (f i : Int))) : Ints W (some ⟨B, 0, none⟩) (stL a f) := by
  refine .inr ⟨B, 0, rfl, fun i hi => ?_⟩
  rw [stL_len] at hi
  rw [Nat.zero_add, stL_nth _ hi]
  exact h i hi
theorem cells_ints {W : World} {B a : Nat} {f : Nat → Nat} (h : Ints W (some ⟨B, 0, none⟩) (stL a f)) : ∀ i, i < a → W.cell? ⟨B, i, none⟩ = some (.int .i64 (f i : Int)) := fun i hi => by
  obtain ⟨q, o, e, h⟩ := ints_at h (by rw [stL_len]; omega)
  cases e
  have := h i (by rw [stL_len]; exact hi)
  rwa [Nat.zero_add, stL_nth _ hi] at this
/-- Rows of states lie in blocks. -/
def TabC (n : Nat) (l : List (Nat → Nat)) (W : World) (G : List (Nat × Nat)) : Prop :=
  ∀ r, r < G.length → ∀ i, i < n → W.cell? ⟨(gth G r).1, i, none⟩ = some (.int .i64 (fAt l r i : Int))
theorem TabC.keep {n : Nat} {l : List (Nat → Nat)} {W W' : World} {G : List (Nat × Nat)} {row : Option Nat} (h : TabC n l W G) (hg : W.grownBy W' row) (hne : ∀ r, r < G.length → some (gth G r).1 ≠ row) : TabC n l W' G :=
  fun r hr i hi => hg.cell (h r hr i hi) (hne r hr)
theorem TabC.next {n : Nat} {l : List (Nat → Nat)} {W W' : World} {G : List (Nat × Nat)} (h : TabC n l W G) (B : Below W.heap.size W W') : TabC n l W' G := h.keep (grown_below B none) (fun _ _ => by simp)
theorem TabC.snoc {n : Nat} {l : List (Nat → Nat)} {f : Nat → Nat} {W : World} {G : List (Nat × Nat)} {g c : Nat} (h : TabC n l W G) (hl : G.length = l.length)
    (hcell : ∀ i, i < n → W.cell? ⟨g, i, none⟩ = some (.int .i64 (f i : Int))) : TabC n (l ++ [f]) W (G ++ [(g, c)]) := by
  intro r hr
  by_cases e : r < G.length
  · rw [gth_old e, fAt_old (by omega)]
    exact h r e
  · obtain rfl : r = G.length := by simp at hr; omega
    rw [gth_new, hl, fAt_new]
    exact hcell
theorem cell_apart {base n k : Nat} {e : TypeId} {W : World} {G : List (Nat × Nat)} {v : Value} {B : Nat} {x : Int} (hk : k = G.length) (h0 : 0 < k) (ho : W.ownsRow base e 1 v k (rowsV n G)) (hc : W.cell? ⟨B, 0, none⟩ = some (.int .i64 x)) : some B ≠ v.ownBlock := by
  obtain ⟨g, c, rfl⟩ := own_pos ho h0
  intro hh
  simp only [Value.ownBlock, Option.some.injEq] at hh
  rw [hh, ho.cellAt 0 (by omega), rowsV_get (by omega)] at hc
  simp at hc
theorem TabC.apart {base n k : Nat} {e : TypeId} {l : List (Nat → Nat)} {W : World} {G : List (Nat × Nat)} {v : Value} (h : TabC n l W G) (hn : 0 < n) (hk : k = G.length) (ho : W.ownsRow base e 1 v k (rowsV n G)) {r : Nat} (hr : r < G.length) : some (gth G r).1 ≠ v.ownBlock :=
  cell_apart hk (by omega) ho (h r hr 0 hn)
theorem rowsI_of {W : World} {base a k g c : Nat} {e : TypeId} {L : List (Nat → Nat)} {G : List (Nat × Nat)} (hk : k = G.length) (hl : L.length = k) (ho : W.ownsRow base e 1 (.slice (some ⟨g, 0, none⟩) k c) k (rowsV a G)) (hT : TabC a L W G) : RowsI W g a L := fun r hr => by
  refine ⟨some ⟨(gth G r).1, 0, none⟩, (gth G r).2, ?_, ints_cells (hT r (by omega))⟩
  rw [ho.cellAt r (by omega)]
  exact rowsV_get (by omega)
set_option maxRecDepth 100000 in
set_option maxHeartbeats 4000000 in
theorem refRound_yes (a b T : Nat) (g : Nat → Nat) (ad : Option Addr) (c : Nat) (w : World) (hs : IsS a b g) (hT : IsT a b g T) (hI : Ints w ad (stL a g)) :
    Calls Try.prog 27 #[.int .i64 (a : Int), .int .i64 (b : Int), .slice ad a c] w (GotR a (itL a b g T) w) := by
  obtain ⟨i0, hi, hz0, hz1, hz2⟩ := info_parts infoInts
  have G0 := Lib.hid hi
  have G1 := Lib.hid hz0
  have G2 := Lib.hid hz1
  have G3 := Lib.hid hz2
  clear hi hz0 hz1 hz2
  have h1 := hT.t1
  have h2 := hT.tl
  have ha1 := hs.p.a1
  have ha := hs.p.a6
  have hb := hs.p.b6
  have hA := asked_yes a b g ad c w hs hI
  have hln := Lib.hid (itL_len a b g)
  have hsu := Lib.hid (fun k => itL_succ a b g k)
  have hD := Lib.hid (fun k ad c w h => refDay_any a b (dayI a b g k) ad c w (dayI_S hs k) h)
  have hS := Lib.hid (fun k (av ad' : Option Addr) cv c' w h h' => refsame_any av ad' a cv c' (stL a (dayI a b g k)) (stL a g) w h h' (stL_len _ _) (stL_len _ _) (by omega) (by omega))
  have hEq : Hid (stL a (dayI a b g T) = stL a g) := Lib.hid (by rw [hT.eq])
  have hNe := Lib.hid (fun k (k1 : 0 < k) (k2 : k < T) (h : stL a (dayI a b g k) = stL a g) => hT.ne k k1 k2 (stL_inj (dayI_S hs k) hs h))
  have hnth := Lib.hid (fun g i (h : i < a) => stL_nth g h)
  have hlg := Lib.hid (stL_len a g)
  have hl1 : Hid (itL a b g 1 = [] ++ [g]) := Lib.hid rfl
  have hdd : Hid (∀ k, dayF a b (dayI a b g k) = dayI a b g (k + 1)) := Lib.hid (fun _ => rfl)
  have hd0 : Hid (dayI a b g 0 = g) := Lib.hid rfl
  obtain ⟨B0, off0, rfl, _⟩ := ints_at hI (by rw [stL_len]; omega)
  replace hI := Lib.hid hI
  clear hs hT
  go_enter Try.func27, Try.ntmps27
  go_upto_region 4 with (go_at_call 48; refine hA.mono ?_; rintro _ w1 ⟨rfl, hw1⟩; replace hI := Lib.hid (hI.out.next hw1); replace hw1 := Lib.hid hw1)
  have hs0 := Lib.hid (World.ownsRow_lit (base := w1.heap.size) (e := 3) (size := 1) w1 #[] 0 (Nat.le_refl _) (by unfold maxLen; omega) rfl)
  have hI1 := Lib.hid (hI.out.next (b1 w1 (.cells #[] 3)))
  go_upto_region 5 with (at_builtin; refine wpList_copy rfl _ _ rfl w1.heap.size _ rfl hs0.out _ a c (stL a g) rfl hI1.out hlg.out (by simp) (by omega) (by simp) ?_; intro a' c' w' hown' hg' hc' hI'; replace hown' := Lib.hid hown'; replace hg' := Lib.hid hg'; replace hI' := Lib.hid hI')
  have B := (b1 w1 (.cells #[] 3)).grown hg'.out (by simp) (fun q hq => by have := (hs0.out.lt q hq).1; omega)
  obtain ⟨gg, cap, e⟩ := own_pos hown'.out (by omega)
  cases e
  have hI2 := Lib.hid ((hI.out.next B).next (b1 w' (.cells #[.slice (some ⟨gg, 0, none⟩) a c'] 22)))
  have hlit := Lib.hid (World.ownsRow_lit (base := w1.heap.size) (e := 22) (size := 1) w' #[.slice (some ⟨gg, 0, none⟩) a c'] 1 B.size (by unfold maxLen; omega) rfl)
  have hrow : ∀ i, i < a → w'.cell? ⟨gg, i, none⟩ = some (.int .i64 (g i : Int)) := fun i hi => by
    obtain ⟨q, o, e, h⟩ := ints_at hI'.out (by rw [hlg.out]; omega)
    cases e
    have := h i (by rw [hlg.out]; exact hi)
    rwa [Nat.zero_add, hnth.out g i hi] at this
  have hTC : Hid (TabC a (itL a b g 1) (w'.alloc (.cells #[.slice (some ⟨gg, 0, none⟩) a c'] 22)) [(gg, c')]) := Lib.hid (by
    have h0 : TabC a [] w' [] := fun r hr => by simp at hr
    rw [hl1.out]
    exact (h0.snoc (c := c') rfl hrow).next (b1 w' _))
  replace B := Lib.hid (nextB B (b1 w' (.cells #[.slice (some ⟨gg, 0, none⟩) a c'] 22)))
  clear hs0 hI1 hown' hg' hI' hrow
  generalize w'.alloc (.cells #[.slice (some ⟨gg, 0, none⟩) a c'] 22) = W at *
  generalize w'.heap.size = D at *
  have hD0 := Lib.hid (fun w h => by have := hD.out 0 (some ⟨B0, off0, none⟩) c w h; exact this)
  go_wp2_with (go_at_call 49; (with_reducible refine (hD0.out _ hI2.out).mono ?_); rintro _ w2 ⟨g2, rfl, hI3, hw2⟩)
  have e01 : Hid (dayF a b (dayI a b g 0) = dayI a b g 1) := Lib.hid rfl
  rw [e01.out] at hI3
  replace hTC := Lib.hid (hTC.out.next hw2)
  have hown := Lib.hid (owns_next hlit.out hw2)
  replace B := Lib.hid (nextB B.out hw2)
  replace hI3 := Lib.hid hI3
  clear hw2 hlit hI2 hD0 hd0 hl1 e01
  go_loopw [9, 10] (fun v d wr => ∃ k : Nat, ∃ G gB, 1 ≤ k ∧ k ≤ T ∧ d = .slice (some ⟨gB, 0, none⟩) a a ∧ G.length = k ∧ wr.ownsRow w1.heap.size 22 1 v k (rowsV a G) ∧ TabC a (itL a b g k) wr G ∧ Ints wr (some ⟨gB, 0, none⟩) (stL a (dayI a b g k)) ∧ Below w1.heap.size w1 wr) (fun v _ _ => T - lenOf v)
  case atStart => exact ⟨1, [(gg, c')], g2, Nat.le_refl _, h1, rfl, rfl, hown.out, hTC.out, hI3.out, B.out⟩
  case round =>
    clear hown hTC hI3 B
    obtain ⟨k, G, gB, hk1, hk, rfl, hG, hown, hTC, hI3, B⟩ := hrel
    have hlen := own_len hown
    obtain ⟨a1, cap1, rfl, hcap1⟩ := own_slice hown
    have hx := cells_ints hI3
    have hap := cell_apart hG.symm (by omega) hown (hx 0 (by omega))
    have hapG := Lib.hid (fun r hr => hTC.apart (by omega) hG.symm hown (r := r) hr)
    have hsz := B.size
    replace hown := Lib.hid hown
    replace hTC := Lib.hid hTC
    replace hI3 := Lib.hid hI3
    replace hx := Lib.hid hx
    replace hap := Lib.hid hap
    replace B := Lib.hid B
    replace hlen := Lib.hid hlen
    have hIs := Lib.hid (hI.out.next B.out)
    by_cases hlt : k < T
    · have hSk := Lib.hid (fun av ad' cv c' w h h' => by have := hS.out k av ad' cv c' w h h'; rwa [decide_eq_false (hNe.out k (by omega) hlt)] at this)
      have hDk := Lib.hid (fun ad c w h => hD.out k ad c w h)
      have hsk := Lib.hid (hsu.out k)
      have hdk := Lib.hid (hdd.out k)
      have hlk := Lib.hid (hln.out k)
      obtain ⟨f, hf⟩ : ∃ f, Hid (dayI a b g k = f) := ⟨_, Lib.hid rfl⟩
      rw [hf.out] at hI3 hx hSk hDk hsk hdk
      have hkM : k + 1 ≤ 1000 := by omega
      clear hS hNe hD hsu hdd
      go_wp2_with (first
        | (go_at_call 61; (with_reducible refine (hSk.out _ _ _ _ _ hI3.out hIs.out).mono ?_); rintro _ w5 ⟨rfl, hb5⟩; have hown5 := Lib.hid (owns_next hown.out hb5); have hTC5 := Lib.hid (hTC.out.next hb5); have hI5 := Lib.hid (hI3.out.next hb5); have hs5 := hb5.size; have B5 := Lib.hid (nextB B.out hb5); have hc1 := Lib.hid (cell_val_new w5 (.slice (some ⟨gB, 0, none⟩) a a) 22); clear hb5)
        | (at_builtin; refine wpList_append_own _ rfl _ _ 36 rfl w1.heap.size 22 i0 (.slice none 0 0) 1 24 Try.underlying36 G0.out G1.out G2.out G3.out rfl (by decide) _ _ _ rfl (hown5.out.alloc _) ⟨_, 0, none⟩ 1 1 [.slice (some ⟨gB, 0, none⟩) a a] rfl rfl hc1.out (by simp [Value.oneCell']) (by unfold maxLen; omega) (by omega) (by simp; omega) ?_; intro v' w6 hown6 hgrow _; have ba := b1 w5 (.cells #[.slice (some ⟨gB, 0, none⟩) a a] 22); have hTC6 := Lib.hid ((hTC5.out.next ba).keep hgrow (fun r hr => hapG.out r hr)); have hx6 := Lib.hid (fun i (hi : i < a) => hgrow.cell (cellB ba (cells_ints hI5.out i hi)) hap.out); have hI6 := Lib.hid (ints_cells hx6.out); have B6 := Lib.hid ((B5.out.alloc (by omega) (.cells #[.slice (some ⟨gB, 0, none⟩) a a] 22)).grown hgrow (by simp; omega) (fun q hq => by have := (hown5.out.lt q hq).1; omega)); replace hown6 := Lib.hid hown6; clear ba hgrow)
        | (go_at_call 49; (with_reducible refine (hDk.out _ _ _ hI6.out).mono ?_); rintro _ w7 ⟨g7, rfl, hI7, hw7⟩; rw [hdk.out] at hI7; replace hI7 := Lib.hid hI7; have hown7 := Lib.hid (owns_next hown6.out hw7); have hTC7 := Lib.hid ((hTC6.out.snoc (f := f) (c := a) (by rw [hG, hlk.out]) hx6.out).next hw7); have B7 := Lib.hid (nextB B6.out hw7); clear hw7))
      have hl7 := own_len hown7.out
      go_roundw
      case rel => exact ⟨k + 1, G ++ [(gB, a)], g7, by omega, by omega, rfl, by rw [List.length_append, hG]; rfl, by rw [rowsV_snoc]; exact hown7.out, by rw [hsk.out]; exact hTC7.out, hI7.out, B7.out⟩
      case measure => rw [hl7]; have := hlen.out; simp only [lenOf] at this ⊢; omega
    · obtain rfl : k = T := by omega
      have hSk := Lib.hid (fun av ad' cv c' w h h' => by have := hS.out k av ad' cv c' w h h'; rwa [decide_eq_true hEq.out] at this)
      clear hS hNe hD hsu hdd
      obtain ⟨g9, c9, e9⟩ := own_pos hown.out (by omega)
      cases e9
      have hlk := Lib.hid (hln.out k)
      have hRI := Lib.hid (rowsI_of hG.symm hlk.out hown.out hTC.out)
      go_wp2_with (go_at_call 61; (with_reducible refine (hSk.out _ _ _ _ _ hI3.out hIs.out).mono ?_); rintro _ w5 ⟨rfl, hb5⟩)
      go_ret2
      exact ⟨g9, _, by rw [hlk.out]; rfl, hRI.out.next hb5, hw1.out.trans ((nextB B.out hb5).mono hw1.out.size)⟩
theorem refRound_no (a b : Int) (xs : List Int) (ad : Option Addr) (n c : Nat) (w : World) (hI : Ints w ad xs) (hl : xs.length = n) (hn : n ≤ 4611686018427387904) (h : ¬ StP a b xs) :
    Calls Try.prog 27 #[.int .i64 a, .int .i64 b, .slice ad n c] w (ErrL 2 w) := by
  have hA := asked_no a b xs ad n c w hI hl hn h
  clear hI hl h hn
  go_enter Try.func27, Try.ntmps27
  go_wp2_with (go_at_call 48; refine hA.mono ?_; rintro _ w1 ⟨rfl, hw1⟩)
  go_ret2
  exact Ret.mk rfl hw1
end Go.Proofs.Ytniknldeafmgaaa
