/- Layer 2: the table, by the specification. -/
import Derived.Test.YtkbdclladfjmcaaEd
namespace Go.Proofs.Ytkbdclladfjmcaa
open Go Go.RowKit

theorem infoInts : (Try.prog.info? 35).map (fun i => (i.zero, i.size, i.bytes)) = some (some (.slice none 0 0), 1, 24) := by kernel_rfl
/-- The row of the table, as far as t. -/
def rowT (xs : List Int) (r t : Nat) : List Int := (List.range t).map fun i => eD xs i r
theorem rowT_len (xs : List Int) (r t : Nat) : (rowT xs r t).length = t := by simp [rowT]
theorem rowT_succ (xs : List Int) (r t : Nat) : lI (rowT xs r t) ++ [.int .i64 (eD xs t r)] = lI (rowT xs r (t + 1)) := by
  simp [rowT, lI, List.range_succ]
theorem rowT_nth {xs : List Int} {r t i : Nat} (h : i < t) : nth (rowT xs r t) i = eD xs i r := by
  simp [nth, rowT, h]
/-- A block and its room, of a list. -/
def gth (G : List (Nat × Nat)) (r : Nat) : Nat × Nat := G[r]?.getD (0, 0)
theorem gth_old {G : List (Nat × Nat)} {p : Nat × Nat} {r : Nat} (h : r < G.length) : gth (G ++ [p]) r = gth G r := by
  simp [gth, List.getElem?_append_left h]
theorem gth_new (G : List (Nat × Nat)) (p : Nat × Nat) : gth (G ++ [p]) G.length = p := by simp [gth]
/-- The rows as values. -/
def rowsV (n : Nat) (G : List (Nat × Nat)) : List Value := G.map fun p => .slice (some ⟨p.1, 0, none⟩) n p.2
theorem rowsV_len (n : Nat) (G : List (Nat × Nat)) : (rowsV n G).length = G.length := by simp [rowsV]
theorem rowsV_snoc (n : Nat) (G : List (Nat × Nat)) (p : Nat × Nat) : rowsV n (G ++ [p]) = rowsV n G ++ [.slice (some ⟨p.1, 0, none⟩) n p.2] := by simp [rowsV]
theorem rowsV_get {n : Nat} {G : List (Nat × Nat)} {r : Nat} (h : r < G.length) : (rowsV n G)[r]? = some (.slice (some ⟨(gth G r).1, 0, none⟩) n (gth G r).2) := by
  simp [rowsV, gth, h]
/-- The rows of the table lie in blocks of their own, not under base, each one behind the one before. -/
def Tab (base n : Nat) (xs : List Int) (W : World) (G : List (Nat × Nat)) : Prop :=
  (∀ r, r < G.length → base ≤ (gth G r).1 ∧ n ≤ (gth G r).2 ∧ ∀ i, i < n → W.cell? ⟨(gth G r).1, i, none⟩ = some (.int .i64 (eD xs i r))) ∧
  ∀ r s, r < s → s < G.length → (gth G r).1 < (gth G s).1
theorem Tab.nil (base n : Nat) (xs : List Int) (W : World) : Tab base n xs W [] := ⟨fun r hr => by simp at hr, fun r s _ hs => by simp at hs⟩
theorem Tab.next {base n : Nat} {xs : List Int} {W W' : World} {G : List (Nat × Nat)} (h : Tab base n xs W G) (B : Below W.heap.size W W') : Tab base n xs W' G :=
  ⟨fun r hr => ⟨(h.1 r hr).1, (h.1 r hr).2.1, fun i hi => cellB B ((h.1 r hr).2.2 i hi)⟩, h.2⟩
theorem Tab.lt {base n : Nat} {xs : List Int} {W : World} {G : List (Nat × Nat)} (h : Tab base n xs W G) (hn : 0 < n) {r : Nat} (hr : r < G.length) : (gth G r).1 < W.heap.size := block_lt_of_cell ((h.1 r hr).2.2 0 hn)
theorem Tab.snoc {base n : Nat} {xs : List Int} {W : World} {G : List (Nat × Nat)} {g c z : Nat} (h : Tab base n xs W G) (hz : ∀ r, r < G.length → (gth G r).1 < z) (hg : z ≤ g) (hb : base ≤ g) (hc : n ≤ c)
    (hcell : ∀ i, i < n → W.cell? ⟨g, i, none⟩ = some (.int .i64 (eD xs i G.length))) : Tab base n xs W (G ++ [(g, c)]) := by
  constructor
  · intro r hr
    by_cases e : r < G.length
    · rw [gth_old e]
      exact h.1 r e
    · obtain rfl : r = G.length := by simp at hr; omega
      rw [gth_new]
      exact ⟨hb, hc, hcell⟩
  · intro r s hrs hs
    by_cases e : s < G.length
    · rw [gth_old e, gth_old (by omega)]
      exact h.2 r s hrs e
    · obtain rfl : s = G.length := by simp at hs; omega
      rw [gth_new, gth_old hrs]
      have := hz r hrs
      show _ < g
      omega
/-- No row lies in the block of the table. -/
theorem Tab.apart {base base' n k : Nat} {e : TypeId} {xs : List Int} {W : World} {G : List (Nat × Nat)} {v : Value} (h : Tab base n xs W G) (hn : 0 < n) (hk : k = G.length) (ho : W.ownsRow base' e 1 v k (rowsV n G)) {r : Nat} (hr : r < G.length) : some (gth G r).1 ≠ v.ownBlock := by
  obtain ⟨g, c, rfl⟩ := own_pos ho (by omega)
  intro hh
  simp only [Value.ownBlock, Option.some.injEq] at hh
  have h1 := (h.1 r hr).2.2 0 hn
  rw [hh, ho.cellAt 0 (by omega), rowsV_get (by omega)] at h1
  simp at h1
theorem Tab.grown {base base' n k : Nat} {e : TypeId} {xs : List Int} {W W' : World} {G : List (Nat × Nat)} {v : Value} (h : Tab base n xs W G) (hn : 0 < n) (hk : k = G.length) (ho : W.ownsRow base' e 1 v k (rowsV n G)) (hg : W.grownBy W' v.ownBlock) : Tab base n xs W' G :=
  ⟨fun r hr => ⟨(h.1 r hr).1, (h.1 r hr).2.1, fun i hi => hg.cell ((h.1 r hr).2.2 i hi) (h.apart hn hk ho hr)⟩, h.2⟩
/-- The cell of a block that has just been laid. -/
theorem cell_val_new (w : World) (a : Value) (t : TypeId) : ∀ j u, [a][j]? = some u → (w.alloc (.cells #[a] t)).cell? (Addr.add ⟨w.heap.size, 0, none⟩ j) = some u := by
  intro j u hj
  have hl : j < 1 := (List.getElem?_eq_some_iff.1 hj).1
  have ha : Addr.add ⟨w.heap.size, 0, none⟩ j = ⟨w.heap.size, j, none⟩ := by first | (simp [Addr.add]; done) | (simp [Addr.add]; omega)
  rw [ha]
  exact (Blk.new w t _).c j (by rw [← hj]; simp)
theorem own_below {B : Nat} {e : TypeId} {k : Nat} {v : Value} {n : Nat} {xs : List Value} {w w' : World} (h : w.ownsRow B e k v n xs) (hb : Below w.heap.size w w') : w'.ownsRow B e k v n xs :=
  h.kept (row := none) ⟨hb.os, hb.tape, hb.output, hb.size, fun j hj _ => hb.block j hj⟩ (by cases hv : v.ownBlock <;> simp)
end Go.Proofs.Ytkbdclladfjmcaa
