/- Layer 2: the table, by the program. -/
import Derived.Test.YtflbaadfbjpakaaGa
namespace Go.Proofs.Ytflbaadfbjpakaa
open Go Go.RowKit

/-- The row that is filled as far as t. -/
def rowU (xs : List Int) (n r t : Nat) : List Int := rowT xs r t ++ List.replicate (n - t) 0
theorem rowU_len {xs : List Int} {n r t : Nat} (h : t ≤ n) : (rowU xs n r t).length = n := by simp [rowU, rowT]; omega
theorem rowU_zero (xs : List Int) (n r : Nat) : List.replicate n 0 = rowU xs n r 0 := by simp [rowU, rowT]
theorem rowU_set {xs : List Int} {n r t : Nat} (h : t < n) : (rowU xs n r t).set t (eD xs t r) = rowU xs n r (t + 1) := by
  unfold rowU
  rw [show n - t = (n - (t + 1)) + 1 by omega, List.replicate_succ, List.set_append_right t _ (by rw [rowT_len]; omega), rowT_len, Nat.sub_self, List.set_cons_zero]
  simp [rowT, List.range_succ]
theorem rowU_nth {xs : List Int} {n r i : Nat} (h : i < n) : nth (rowU xs n r n) i = eD xs i r := by
  unfold rowU
  rw [Nat.sub_self, List.replicate_zero, List.append_nil, rowT_nth h]
theorem NumMap.grown {w w' : World} {B c : Nat} {f : Int → Int → Int} {row : Option Nat} (h : NumMap w B c f) (hg : w.grownBy w' row) (hne : some B ≠ row) : NumMap w' B c f := by
  obtain ⟨D, h1, h2, h3⟩ := h
  have hlt := h1.lt
  obtain ⟨es, clock, hh, F, hs, e⟩ := h1
  exact ⟨D, ⟨es, clock, (hg.block B hlt hne).trans hh, F, hs, e⟩, h2, h3⟩
/-- The rows may be written to. -/
def Frz (W : World) (G : List (Nat × Nat)) : Prop := ∀ r, r < G.length → (gth G r).1 < W.heap.size ∧ W.frozen? ⟨(gth G r).1, 0, none⟩ = false
theorem Frz.next {W W' : World} {G : List (Nat × Nat)} (h : Frz W G) (B : Below W.heap.size W W') : Frz W' G := fun r hr => by
  obtain ⟨h1, h2⟩ := h r hr
  have := B.size
  exact ⟨by omega, (World.frozen?_of_block (a := ⟨(gth G r).1, 0, none⟩) (B.block _ h1)).trans h2⟩
theorem Frz.grown {W W' : World} {G : List (Nat × Nat)} {row : Option Nat} (h : Frz W G) (hg : W.grownBy W' row) (hne : ∀ r, r < G.length → some (gth G r).1 ≠ row) : Frz W' G := fun r hr => by
  obtain ⟨h1, h2⟩ := h r hr
  have := hg.size
  exact ⟨by omega, (World.frozen?_of_block (a := ⟨(gth G r).1, 0, none⟩) (hg.block _ h1 (hne r hr))).trans h2⟩
theorem Frz.snoc {W : World} {G : List (Nat × Nat)} {g c : Nat} (h : Frz W G) (h1 : g < W.heap.size) (h2 : W.frozen? ⟨g, 0, none⟩ = false) : Frz W (G ++ [(g, c)]) := fun r hr => by
  by_cases e : r < G.length
  · rw [gth_old e]
    exact h r e
  · obtain rfl : r = G.length := by simp at hr; omega
    rw [gth_new]
    exact ⟨h1, h2⟩
set_option maxRecDepth 100000 in
set_option maxHeartbeats 1600000 in
theorem Frieze_yes (b off n cp : Nat) (xs : List Int) (w : World) (h : Ints w (some ⟨b, off, none⟩) xs) (hn : xs.length = n) (hR : RoundP xs) (hcell : ∀ k, k < n → w.cell? ⟨b, off + k, none⟩ = some (.int .i64 (nth xs k))) :
    Calls Try.prog 33 #[.slice (some ⟨b, off, none⟩) n cp] w fun e w' => ∃ v G, e = .returned (.tuple #[v, .int .i64 0]) ∧ G.length = n + 1 ∧ w'.ownsRow w.heap.size 30 1 v (n + 1) (rowsV n G) ∧ Tab w.heap.size n xs w' G ∧ Frz w' G ∧ Below w.heap.size w w' := by
  have K := Lib.hid (isRound_any (some ⟨b, off, none⟩) n cp xs w h hn (by have := hR.2.1; omega))
  rw [decide_eq_true hR] at K
  have hn12 : n ≤ 12 := by have := hR.2.1; omega
  have h3 : 3 ≤ n := by have := hR.1; omega
  have A := Lib.hid (numbersOf_any b off n cp xs w hR hn hcell)
  have hup := Lib.hid (fun i d (hi : i < n) (hd : d ≤ n) => upN_at xs n n i d hi hd)
  have hmk := make_ints n (by omega)
  obtain ⟨j0, hi0, hz0, hz1, hz2⟩ := info_parts infoInts
  have P0 := Lib.hid hi0
  have P1 := Lib.hid hz0
  have P2 := Lib.hid hz1
  have P3 := Lib.hid hz2
  clear hi0 hz0 hz1 hz2 h hn hR hcell
  go_enter Try.func33, Try.ntmps33
  go_wp2_with (first
    | (go_at_call 54; refine K.out.mono ?_; rintro e w1 ⟨rfl, rfl⟩)
    | (go_at_call 57; refine A.out.mono ?_; rintro e w1 ⟨B, c, rfl, hN, B0⟩))
  clear K A
  have hBz := hN.lt
  have hz0 := B0.size
  generalize hy : w1.heap.size = y at *
  go_loopw [6, 19] (fun v i wr => ∃ (r : Nat) (G : List (Nat × Nat)), r ≤ n + 1 ∧ i = .int .i64 r ∧ Hid (G.length = r) ∧ NumMap wr B c (upN xs n n) ∧ wr.ownsRow y 30 1 v r (rowsV n G) ∧ Tab w.heap.size n xs wr G ∧ Frz wr G ∧ Below w.heap.size w wr ∧ y ≤ wr.heap.size) (fun _ i _ => n + 1 - (intOf i).toNat)
  case atStart => exact ⟨0, [], by omega, rfl, Lib.hid rfl, hN, World.ownsRow_nil _ _ _ _, Tab.nil _ _ _ _, (fun r hr => by simp at hr), B0, by omega⟩
  case round =>
    clear hN B0
    obtain ⟨r, G, hr, rfl, hG, hN, hown, hrows, hfr, B0, hyr⟩ := hrel
    by_cases hlt : r ≤ n
    · have hi1 : (r : Int) < (n : Int) + 1 := by omega
      have hi0 : (0 : Int) ≤ (r : Int) := by omega
      go_wp2_with fail
      generalize wr = w1 at *
      have hz := B0.size
      have hzy : y ≤ w1.heap.size := hyr
      have hzG : Hid (∀ s, s < G.length → (gth G s).1 < w1.heap.size) := Lib.hid fun s hs => hrows.lt (by omega) hs
      have hzT : Hid (∀ q, u6.ownBlock = some q → q < w1.heap.size) := Lib.hid fun q hq => (hown.lt q hq).2
      have hown0 : Hid (∀ q, u6.ownBlock = some q → y ≤ q) := Lib.hid fun q hq => (hown.lt q hq).1
      have T0 := Lib.hid hrows
      have O0 := Lib.hid hown
      have N0 := Lib.hid hN
      have F0 := Lib.hid hfr
      have I0 := Blk.new w1 3 (cI (List.replicate n 0))
      have B1 := b1 w1 (.cells (cI (List.replicate n 0)) 3)
      rw [rowU_zero xs n r] at I0 B1 ⊢
      clear hown hrows hN hmk hfr
      generalize hW : w1.alloc (.cells (cI (rowU xs n r 0)) 3) = W1 at *
      clear hW
      generalize hzz : w1.heap.size = z at *
      replace hzz := Lib.hid hzz
      go_loopw [26] (fun i wr => ∃ t : Nat, t ≤ n ∧ i = .int .i64 t ∧ Blk wr z 3 (cI (rowU xs n r t)) ∧ Below z w1 wr) (fun i _ => n - (intOf i).toNat)
      case atStart => exact ⟨0, by omega, rfl, I0, B1⟩
      case round =>
        clear I0 B1
        obtain ⟨t, ht, rfl, I0, B1⟩ := hrel
        have hsz := B1.size
        rw [hzz.out] at hsz
        have B2 := Lib.hid (show Below w1.heap.size w1 wr by rw [hzz.out]; exact B1)
        by_cases hlt2 : t < n
        · have hN := N0.out.next B2.out
          have l1 := hN.look (i := t) (k := (t : Int) + r) (wf_bd (by omega) (by omega)) (wf_bd (by omega) (by omega))
          rw [hup.out t r hlt2 hlt _ _ rfl rfl] at l1
          have hs := Lib.hid (rowU_set (xs := xs) (r := r) hlt2)
          have hl := Lib.hid (rowU_len (xs := xs) (r := r) ht)
          have ci := I0.i t (by rw [hl.out]; omega)
          have cf := I0.fr t
          have cl := I0.lt
          have k0 : (0 : Int) ≤ (t : Int) := by omega
          have k1 : (t : Int) < (n : Int) := by omega
          go_wp2_with fail
          go_roundw
          case rel => exact ⟨t + 1, by omega, by go_num, by rw [← hs.out]; exact I0.setI t _ (by rw [hl.out]; omega), B1.setCell (Nat.le_refl _) _⟩
          case measure => simp [intOf]; omega
        · obtain rfl : n = t := by omega
          have hO := own_below O0.out B2.out
          have hT := T0.out.next B2.out
          have hgc := Lib.hid (fun i (hi : i < n) => show wr.cell? ⟨z, i, none⟩ = some (.int .i64 (eD xs i G.length)) from by
            have := I0.i i (by rw [rowU_len (Nat.le_refl _)]; exact hi)
            rwa [rowU_nth hi, ← hG.out] at this)
          have hT2 := Lib.hid (hT.next (b1 wr (.cells #[.slice (some ⟨z, 0, none⟩) n n] 30)))
          have hO2 := hO.alloc (.cells #[.slice (some ⟨z, 0, none⟩) n n] 30)
          have hsn := Lib.hid (rowsV_snoc n G (z, n))
          have hF2 := Lib.hid ((F0.out.next B2.out).next (b1 wr (.cells #[.slice (some ⟨z, 0, none⟩) n n] 30)))
          have hI2 := Lib.hid (I0.alloc (.cells #[.slice (some ⟨z, 0, none⟩) n n] 30))
          clear hO hT ht I0
          go_wp2_with (at_builtin; refine wpList_append_own _ rfl _ _ 42 rfl y 30 j0 (.slice none 0 0) 1 24 Try.underlying42 P0.out P1.out P2.out P3.out rfl (by decide) _ _ _ rfl hO2 ⟨_, 0, none⟩ 1 1 [.slice (some ⟨z, 0, none⟩) n n] rfl rfl (cell_val_new _ _ _) (by simp [Value.oneCell']) (by unfold maxLen; omega) (by omega) (by simp; omega) ?_; intro v' w2 hown2 hgrow _; rw [← hsn.out] at hown2)
          change (wr.alloc _).grownBy w2 u6.ownBlock at hgrow
          have ho4 : ∀ q, u6.ownBlock = some q → q < z := hzT.out
          have hT3 := hT2.out.grown (by omega) hG.out.symm hO2 hgrow
          have hne4 : some z ≠ u6.ownBlock := fun e => by have := ho4 z e.symm; omega
          have hI3 := hI2.out.grown hgrow hne4
          have hF4 := (hF2.out.grown hgrow (fun s hs => hT2.out.apart (by omega) hG.out.symm hO2 hs)).snoc (g := z) (c := n) hI3.lt (hI3.fr 0)
          have hT4 := hT3.snoc (g := z) (c := n) (z := z) hzG.out (Nat.le_refl _) (by omega) (Nat.le_refl _) (fun i hi => hgrow.cell (cellB (b1 wr _) (hgc.out i hi)) hne4)
          have B4 := ((nextB B0 B2.out).alloc (by omega) (.cells #[.slice (some ⟨z, 0, none⟩) n n] 30)).grown hgrow (by simp; omega) (fun q hq => Nat.le_trans hz0 (hown0.out q hq))
          have hN4 := ((N0.out.next B2.out).next (b1 wr _)).grown hgrow (fun e => by have := hown0.out B e.symm; omega)
          go_roundw
          case rel => exact ⟨r + 1, G ++ [(z, n)], by omega, by go_num, Lib.hid (by simp [hG.out]), hN4, hown2, hT4, hF4, B4, by have := hgrow.size; simp at this; omega⟩
          case measure => simp [intOf]; omega
    · obtain rfl : r = n + 1 := by omega
      go_wp2_with fail
      go_ret2
      exact ⟨_, G, rfl, hG.out, own_base hown hz0, hrows, hfr, B0⟩
set_option maxRecDepth 100000 in
theorem Frieze_no (a : Option Addr) (n cp : Nat) (xs : List Int) (w : World) (h : Ints w a xs) (hn : xs.length = n) (hm : n ≤ 4611686018427387904) (hR : ¬ RoundP xs) :
    Calls Try.prog 33 #[.slice a n cp] w (Ret (.tuple #[.slice none 0 0, .int .i64 2]) w) := by
  have K := Lib.hid (isRound_any a n cp xs w h hn hm)
  rw [decide_eq_false hR] at K
  clear h hR hn
  go_enter Try.func33, Try.ntmps33
  go_wp2_with (go_at_call 54; refine K.out.mono ?_; rintro e w1 ⟨rfl, rfl⟩)
  go_ret2
  exact Ret.mk rfl (Below.refl _ _)
set_option maxRecDepth 100000 in
theorem refFrieze_no (a : Option Addr) (n cp : Nat) (xs : List Int) (w : World) (h : Ints w a xs) (hn : xs.length = n) (hm : n ≤ 4611686018427387904) (hR : ¬ RoundP xs) :
    Calls Try.prog 32 #[.slice a n cp] w (Ret (.tuple #[.slice none 0 0, .int .i64 2]) w) := by
  have K := Lib.hid (refIsRound_any a n cp xs w h hn hm)
  rw [decide_eq_false hR] at K
  clear h hR hn
  go_enter Try.func32, Try.ntmps32
  go_wp2_with (go_at_call 44; refine K.out.mono ?_; rintro e w1 ⟨rfl, rfl⟩)
  go_ret2
  exact Ret.mk rfl (Below.refl _ _)
end Go.Proofs.Ytflbaadfbjpakaa
