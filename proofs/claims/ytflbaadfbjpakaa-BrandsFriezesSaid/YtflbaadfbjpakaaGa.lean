/- Layer 2: the table, by the specification. -/
import Derived.Test.YtflbaadfbjpakaaEd
namespace Go.Proofs.Ytflbaadfbjpakaa
open Go Go.RowKit

theorem infoInts : (Try.prog.info? 30).map (fun i => (i.zero, i.size, i.bytes)) = some (some (.slice none 0 0), 1, 24) := by kernel_rfl
/-- The row of the table, as far as t. -/
def rowT (xs : List Int) (r t : Nat) : List Int := (List.range t).map fun i => eD xs i r
theorem rowT_len (xs : List Int) (r t : Nat) : (rowT xs r t).length = t := by simp [rowT]
theorem rowT_succ (xs : List Int) (r t : Nat) : lI (rowT xs r t) ++ [.int .i64 (eD xs t r)] = lI (rowT xs r (t + 1)) := by
  simp [rowT, lI, List.range_succ]
theorem rowT_nth {xs : List Int} {r t i : Nat} (h : i < t) : nth (rowT xs r t) i = eD xs i r := by
  simp [nth, rowT, h]
/-- A block and its room, of a list. -/
def gth (G : List (Nat × Nat)) (r : Nat) : Nat × Nat := G[r]?.getD (0, 0)
theorem gth_old {G : List (Nat × Nat)} {p : Nat × Nat} {r : Nat} (h : r < G.length) : gth (G ++ [p]) r = gth G r := by
  simp [gth, List.getElem?_append_left h]
theorem gth_new (G : List (Nat × Nat)) (p : Nat × Nat) : gth (G ++ [p]) G.length = p := by simp [gth]
/-- The rows as values. -/
def rowsV (n : Nat) (G : List (Nat × Nat)) : List Value := G.map fun p => .slice (some ⟨p.1, 0, none⟩) n p.2
theorem rowsV_len (n : Nat) (G : List (Nat × Nat)) : (rowsV n G).length = G.length := by simp [rowsV]
theorem rowsV_snoc (n : Nat) (G : List (Nat × Nat)) (p : Nat × Nat) : rowsV n (G ++ [p]) = rowsV n G ++ [.slice (some ⟨p.1, 0, none⟩) n p.2] := by simp [rowsV]
theorem rowsV_get {n : Nat} {G : List (Nat × Nat)} {r : Nat} (h : r < G.length) : (rowsV n G)[r]? = some (.slice (some ⟨(gth G r).1, 0, none⟩) n (gth G r).2) := by
  simp [rowsV, gth, h]
/-- The rows of the table lie in blocks of their own, not under base, each one behind the one before. -/
def Tab (base n : Nat) (xs : List Int) (W : World) (G : List (Nat × Nat)) : Prop :=
  (∀ r, r < G.length → base ≤ (gth G r).1 ∧ n ≤ (gth G r).2 ∧ ∀ i, i < n → W.cell? ⟨(gth G r).1, i, none⟩ = some (.int .i64 (eD xs i r))) ∧
  ∀ r s, r < s → s < G.length → (gth G r).1 < (gth G s).1
theorem Tab.nil (base n : Nat) (xs : List Int) (W : World) : Tab base n xs W [] := ⟨fun r hr => by simp at hr, fun r s _ hs => by simp at hs⟩
theorem Tab.next {base n : Nat} {xs : List Int} {W W' : World} {G : List (Nat × Nat)} (h : Tab base n xs W G) (B : Below W.heap.size W W') : Tab base n xs W' G :=
  ⟨fun r hr => ⟨(h.1 r hr).1, (h.1 r hr).2.1, fun i hi => cellB B ((h.1 r hr).2.2 i hi)⟩, h.2⟩
theorem Tab.lt {base n : Nat} {xs : List Int} {W : World} {G : List (Nat × Nat)} (h : Tab base n xs W G) (hn : 0 < n) {r : Nat} (hr : r < G.length) : (gth G r).1 < W.heap.size := block_lt_of_cell ((h.1 r hr).2.2 0 hn)
theorem Tab.snoc {base n : Nat} {xs : List Int} {W : World} {G : List (Nat × Nat)} {g c z : Nat} (h : Tab base n xs W G) (hz : ∀ r, r < G.length → (gth G r).1 < z) (hg : z ≤ g) (hb : base ≤ g) (hc : n ≤ c)
    (hcell : ∀ i, i < n → W.cell? ⟨g, i, none⟩ = some (.int .i64 (eD xs i G.length))) : Tab base n xs W (G ++ [(g, c)]) := by
  constructor
  · intro r hr
    by_cases e : r < G.length
    · rw [gth_old e]
      exact h.1 r e
    · obtain rfl : r = G.length := by simp at hr; omega
      rw [gth_new]
      exact ⟨hb, hc, hcell⟩
  · intro r s hrs hs
    by_cases e : s < G.length
    · rw [gth_old e, gth_old (by omega)]
      exact h.2 r s hrs e
    · obtain rfl : s = G.length := by simp at hs; omega
      rw [gth_new, gth_old hrs]
      have := hz r hrs
      show _ < g
      omega
/-- No row lies in the block of the table. -/
theorem Tab.apart {base base' n k : Nat} {e : TypeId} {xs : List Int} {W : World} {G : List (Nat × Nat)} {v : Value} (h : Tab base n xs W G) (hn : 0 < n) (hk : k = G.length) (ho : W.ownsRow base' e 1 v k (rowsV n G)) {r : Nat} (hr : r < G.length) : some (gth G r).1 ≠ v.ownBlock := by
  obtain ⟨g, c, rfl⟩ := own_pos ho (by omega)
  intro hh
  simp only [Value.ownBlock, Option.some.injEq] at hh
  have h1 := (h.1 r hr).2.2 0 hn
  rw [hh, ho.cellAt 0 (by omega), rowsV_get (by omega)] at h1
  simp at h1
theorem Tab.grown {base base' n k : Nat} {e : TypeId} {xs : List Int} {W W' : World} {G : List (Nat × Nat)} {v : Value} (h : Tab base n xs W G) (hn : 0 < n) (hk : k = G.length) (ho : W.ownsRow base' e 1 v k (rowsV n G)) (hg : W.grownBy W' v.ownBlock) : Tab base n xs W' G :=
  ⟨fun r hr => ⟨(h.1 r hr).1, (h.1 r hr).2.1, fun i hi => hg.cell ((h.1 r hr).2.2 i hi) (h.apart hn hk ho hr)⟩, h.2⟩
/-- The cell of a block that has just been laid. -/
theorem cell_val_new (w : World) (a : Value) (t : TypeId) : ∀ j u, [a][j]? = some u → (w.alloc (.cells #[a] t)).cell? (Addr.add ⟨w.heap.size, 0, none⟩ j) = some u := by
  intro j u hj
  have hl : j < 1 := (List.getElem?_eq_some_iff.1 hj).1
  have ha : Addr.add ⟨w.heap.size, 0, none⟩ j = ⟨w.heap.size, j, none⟩ := by first | (simp [Addr.add]; done) | (simp [Addr.add]; omega)
  rw [ha]
  exact (Blk.new w t _).c j (by rw [← hj]; simp)
theorem own_below {B : Nat} {e : TypeId} {k : Nat} {v : Value} {n : Nat} {xs : List Value} {w w' : World} (h : w.ownsRow B e k v n xs) (hb : Below w.heap.size w w') : w'.ownsRow B e k v n xs :=
  h.kept (row := none) ⟨hb.os, hb.tape, hb.output, hb.size, fun j hj _ => hb.block j hj⟩ (by cases hv : v.ownBlock <;> simp)
set_option maxRecDepth 100000 in
set_option maxHeartbeats 1600000 in
theorem refFrieze_yes (b off n cp : Nat) (xs : List Int) (w : World) (h : Ints w (some ⟨b, off, none⟩) xs) (hn : xs.length = n) (hR : RoundP xs) (hcell : ∀ k, k < n → w.cell? ⟨b, off + k, none⟩ = some (.int .i64 (nth xs k))) :
    Calls Try.prog 32 #[.slice (some ⟨b, off, none⟩) n cp] w fun e w' => ∃ v G, e = .returned (.tuple #[v, .int .i64 0]) ∧ G.length = n + 1 ∧ w'.ownsRow w.heap.size 30 1 v (n + 1) (rowsV n G) ∧ Tab w.heap.size n xs w' G ∧ Below w.heap.size w w' := by
  have K := Lib.hid (refIsRound_any (some ⟨b, off, none⟩) n cp xs w h hn (by have := hR.2.1; omega))
  rw [decide_eq_true hR] at K
  have hn12 : n ≤ 12 := by have := hR.2.1; omega
  have h3 : 3 ≤ n := by have := hR.1; omega
  have E1 := Lib.hid (fun i r (hi : i < n) (hr : r ≤ n) W (B : Below w.heap.size w W) => refE_any b off n cp i r xs W hR hn hi hr (fun k hk => cellB B (hcell k hk)))
  obtain ⟨i0, hi0, hz0, hz1, hz2⟩ := info_parts infoInt
  have G0 := Lib.hid hi0
  have G1 := Lib.hid hz0
  have G2 := Lib.hid hz1
  have G3 := Lib.hid hz2
  clear hi0 hz0 hz1 hz2
  obtain ⟨j0, hi0, hz0, hz1, hz2⟩ := info_parts infoInts
  have P0 := Lib.hid hi0
  have P1 := Lib.hid hz0
  have P2 := Lib.hid hz1
  have P3 := Lib.hid hz2
  clear hi0 hz0 hz1 hz2 h hn hR hcell
  go_enter Try.func32, Try.ntmps32
  go_wp2_with (go_at_call 44; refine K.out.mono ?_; rintro e w1 ⟨rfl, rfl⟩)
  clear K
  go_loopw [4, 5] (fun v i wr => ∃ (r : Nat) (G : List (Nat × Nat)), r ≤ n + 1 ∧ i = .int .i64 r ∧ Hid (G.length = r) ∧ wr.ownsRow w.heap.size 30 1 v r (rowsV n G) ∧ Tab w.heap.size n xs wr G ∧ Below w.heap.size w wr) (fun _ i _ => n + 1 - (intOf i).toNat)
  case atStart => exact ⟨0, [], by omega, rfl, Lib.hid rfl, World.ownsRow_nil _ _ _ _, Tab.nil _ _ _ _, Below.refl _ _⟩
  case round =>
    obtain ⟨r, G, hr, rfl, hG, hown, hrows, B0⟩ := hrel
    by_cases hlt : r ≤ n
    · go_wp2_with fail
      generalize wr = w1 at *
      have hz := B0.size
      have hzG : Hid (∀ s, s < G.length → (gth G s).1 < w1.heap.size) := Lib.hid fun s hs => hrows.lt (by omega) hs
      have hzT : Hid (∀ q, u4.ownBlock = some q → q < w1.heap.size) := Lib.hid fun q hq => (hown.lt q hq).2
      have hown0 : Hid (∀ q, u4.ownBlock = some q → w.heap.size ≤ q) := Lib.hid fun q hq => (hown.lt q hq).1
      have T0 := Lib.hid hrows
      have O0 := Lib.hid hown
      generalize hzz : w1.heap.size = z at *
      replace hzz := Lib.hid hzz
      go_loopw [6, 7] (fun v i wr => ∃ t : Nat, t ≤ n ∧ i = .int .i64 t ∧ wr.ownsRow z 3 1 v t (lI (rowT xs r t)) ∧ Below z w1 wr) (fun _ i _ => n - (intOf i).toNat)
      case atStart => exact ⟨0, by omega, rfl, World.ownsRow_nil _ _ _ _, Below.refl _ _⟩
      case round =>
        obtain ⟨t, ht, rfl, hrow, B1⟩ := hrel
        clear hown hrows
        have B2 := Lib.hid (show Below w.heap.size w wr from nextB B0 (by rw [hzz.out]; exact B1))
        by_cases hlt2 : t < n
        · have F1 := Lib.hid (E1.out t r hlt2 hlt wr B2.out)
          have hs := Lib.hid (rowT_succ xs r t)
          have hsz := B1.size
          rw [hzz.out] at hsz
          have B3 := B1.alloc hsz (.cells #[.int .i64 (eD xs t r)] 3)
          go_wp2_with (first
            | (go_at_call 58; (with_reducible refine F1.out.mono ?_); rintro e w2 ⟨rfl, rfl⟩)
            | (at_builtin; refine wpList_append_own _ rfl _ _ 30 rfl z 3 i0 (.int .i64 0) 1 8 Try.underlying30 G0.out G1.out G2.out G3.out rfl (by decide) _ _ _ rfl (hrow.alloc _) ⟨_, 0, none⟩ 1 1 [.int .i64 (eD xs t r)] rfl rfl (cell_one_new _ _ _) (by simp [Value.oneCell']) (by unfold maxLen; omega) (by omega) (by simp; omega) ?_; intro v' w2 hrow2 hgrow _; rw [hs.out] at hrow2))
          change (wr.alloc _).grownBy w2 u6.ownBlock at hgrow
          have B4 := B3.grown hgrow (by simp; omega) (fun q hq => (hrow.lt q hq).1)
          go_roundw
          case rel => exact ⟨t + 1, by omega, by go_num, hrow2, B4⟩
          case measure => simp [intOf]; omega
        · obtain rfl : n = t := by omega
          obtain ⟨g, c, rfl⟩ := own_pos hrow (by omega)
          have hgc := (own_ints hrow).2
          have hgl := hrow.lt g rfl
          have hO := own_below O0.out (by rw [hzz.out]; exact B1)
          have hT := T0.out.next (by rw [hzz.out]; exact B1)
          have hsz := B1.size
          rw [hzz.out] at hsz
          have hT2 := Lib.hid (hT.next (b1 wr (.cells #[.slice (some ⟨g, 0, none⟩) n c] 30)))
          have hO2 := hO.alloc (.cells #[.slice (some ⟨g, 0, none⟩) n c] 30)
          have hsn := Lib.hid (rowsV_snoc n G (g, c))
          go_wp2_with (at_builtin; refine wpList_append_own _ rfl _ _ 42 rfl w.heap.size 30 j0 (.slice none 0 0) 1 24 Try.underlying42 P0.out P1.out P2.out P3.out rfl (by decide) _ _ _ rfl hO2 ⟨_, 0, none⟩ 1 1 [.slice (some ⟨g, 0, none⟩) n c] rfl rfl (cell_val_new _ _ _) (by simp [Value.oneCell']) (by unfold maxLen; omega) (by omega) (by simp; omega) ?_; intro v' w2 hown2 hgrow _; rw [← hsn.out] at hown2)
          change (wr.alloc _).grownBy w2 u4.ownBlock at hgrow
          have hgz : z ≤ g := (hgl).1
          have hcap : n ≤ c := (own_cap hrow).1
          have ho4 : ∀ q, u4.ownBlock = some q → q < z := hzT.out
          have hT3 := hT2.out.grown (by omega) hG.out.symm hO2 hgrow
          have hT4 := hT3.snoc (g := g) (c := c) (z := z) hzG.out hgz (by omega) hcap (fun i hi => by
            have h1 := hgc i hi
            rw [Nat.zero_add, rowT_nth hi, ← hG.out] at h1
            exact hgrow.cell (cellB (b1 wr _) h1) (fun e => by have := ho4 g e.symm; omega))
          have B4 := ((nextB B0 (by rw [hzz.out]; exact B1)).alloc (by omega) (.cells #[.slice (some ⟨g, 0, none⟩) n c] 30)).grown hgrow (by simp; omega) (fun q hq => (hown0.out q hq))
          go_roundw
          case rel => exact ⟨r + 1, G ++ [(g, c)], by omega, by go_num, Lib.hid (by simp [hG.out]), hown2, hT4, B4⟩
          case measure => simp [intOf]; omega
    · obtain rfl : r = n + 1 := by omega
      go_wp2_with fail
      go_ret2
      exact ⟨_, G, rfl, hG.out, hown, hrows, B0⟩
end Go.Proofs.Ytflbaadfbjpakaa
