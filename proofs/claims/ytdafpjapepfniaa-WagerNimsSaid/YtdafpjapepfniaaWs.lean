/- Layer 7, by the program: sizeError, fullBar, taken; Lost. -/
import Derived.Test.YtdafpjapepfniaaWr
namespace Go.Proofs.Ytdafpjapepfniaa
open Go Go.RowKit

theorem infoInts : (Try.prog.info? 22).map (fun i => (i.zero, i.size, i.bytes)) = some (some (.slice none 0 0), 1, 24) := by kernel_rfl
/-- A block and its room, of a list. -/
def gth (G : List (Nat × Nat)) (r : Nat) : Nat × Nat := G[r]?.getD (0, 0)
theorem gth_old {G : List (Nat × Nat)} {p : Nat × Nat} {r : Nat} (h : r < G.length) : gth (G ++ [p]) r = gth G r := by
  simp [gth, List.getElem?_append_left h]
theorem gth_new (G : List (Nat × Nat)) (p : Nat × Nat) : gth (G ++ [p]) G.length = p := by simp [gth]
/-- The rows as values. -/
def rowsV (n : Nat) (G : List (Nat × Nat)) : List Value := G.map fun p => .slice (some ⟨p.1, 0, none⟩) n p.2
theorem rowsV_len (n : Nat) (G : List (Nat × Nat)) : (rowsV n G).length = G.length := by simp [rowsV]
theorem rowsV_snoc (n : Nat) (G : List (Nat × Nat)) (p : Nat × Nat) : rowsV n (G ++ [p]) = rowsV n G ++ [.slice (some ⟨p.1, 0, none⟩) n p.2] := by simp [rowsV]
theorem rowsV_get {n : Nat} {G : List (Nat × Nat)} {r : Nat} (h : r < G.length) : (rowsV n G)[r]? = some (.slice (some ⟨(gth G r).1, 0, none⟩) n (gth G r).2) := by
  simp [rowsV, gth, h]
/-- Rows of bars lie in blocks of their own, not under base, each one behind the one before. -/
def TabB (base n : Nat) (l : List (Nat → Nat)) (W : World) (G : List (Nat × Nat)) : Prop :=
  (∀ r, r < G.length → base ≤ (gth G r).1 ∧ n ≤ (gth G r).2 ∧ ∀ i, i < n → W.cell? ⟨(gth G r).1, i, none⟩ = some (.int .i64 (fAt l r i : Int))) ∧
  ∀ r s, r < s → s < G.length → (gth G r).1 < (gth G s).1
theorem TabB.nil (base n : Nat) (l : List (Nat → Nat)) (W : World) : TabB base n l W [] := ⟨fun r hr => by simp at hr, fun r s _ hs => by simp at hs⟩
theorem TabB.keep {base n : Nat} {l : List (Nat → Nat)} {W W' : World} {G : List (Nat × Nat)} {row : Option Nat} (h : TabB base n l W G) (hg : W.grownBy W' row) (hne : ∀ r, r < G.length → some (gth G r).1 ≠ row) : TabB base n l W' G :=
  ⟨fun r hr => ⟨(h.1 r hr).1, (h.1 r hr).2.1, fun i hi => hg.cell ((h.1 r hr).2.2 i hi) (hne r hr)⟩, h.2⟩
theorem TabB.next {base n : Nat} {l : List (Nat → Nat)} {W W' : World} {G : List (Nat × Nat)} (h : TabB base n l W G) (B : Below W.heap.size W W') : TabB base n l W' G := h.keep (grown_below B none) (fun _ _ => by simp)
theorem TabB.lt {base n : Nat} {l : List (Nat → Nat)} {W : World} {G : List (Nat × Nat)} (h : TabB base n l W G) (hn : 0 < n) {r : Nat} (hr : r < G.length) : (gth G r).1 < W.heap.size := block_lt_of_cell ((h.1 r hr).2.2 0 hn)
theorem fAt_old {l : List (Nat → Nat)} {f : Nat → Nat} {r : Nat} (h : r < l.length) : fAt (l ++ [f]) r = fAt l r := by simp [fAt, List.getElem?_append_left h]
theorem fAt_new (l : List (Nat → Nat)) (f : Nat → Nat) : fAt (l ++ [f]) l.length = f := by simp [fAt]
theorem TabB.snoc {base n : Nat} {l : List (Nat → Nat)} {f : Nat → Nat} {W : World} {G : List (Nat × Nat)} {g c z : Nat} (h : TabB base n l W G) (hl : G.length = l.length) (hz : ∀ r, r < G.length → (gth G r).1 < z) (hg : z ≤ g) (hb : base ≤ g) (hc : n ≤ c)
    (hcell : ∀ i, i < n → W.cell? ⟨g, i, none⟩ = some (.int .i64 (f i : Int))) : TabB base n (l ++ [f]) W (G ++ [(g, c)]) := by
  constructor
  · intro r hr
    by_cases e : r < G.length
    · rw [gth_old e, fAt_old (by omega)]
      exact h.1 r e
    · obtain rfl : r = G.length := by simp at hr; omega
      rw [gth_new, hl, fAt_new]
      exact ⟨hb, hc, hcell⟩
  · intro r s hrs hs
    by_cases e : s < G.length
    · rw [gth_old e, gth_old (by omega)]
      exact h.2 r s hrs e
    · obtain rfl : s = G.length := by simp at hs; omega
      rw [gth_new, gth_old hrs]
      have := hz r hrs
      show _ < g
      omega
/-- No row lies in the block of the table. -/
theorem TabB.apart {base base' n k : Nat} {e : TypeId} {l : List (Nat → Nat)} {W : World} {G : List (Nat × Nat)} {v : Value} (h : TabB base n l W G) (hn : 0 < n) (hk : k = G.length) (ho : W.ownsRow base' e 1 v k (rowsV n G)) {r : Nat} (hr : r < G.length) : some (gth G r).1 ≠ v.ownBlock := by
  obtain ⟨g, c, rfl⟩ := own_pos ho (by omega)
  intro hh
  simp only [Value.ownBlock, Option.some.injEq] at hh
  have h1 := (h.1 r hr).2.2 0 hn
  rw [hh, ho.cellAt 0 (by omega), rowsV_get (by omega)] at h1
  simp at h1
/-- The cell of a block that has just been laid. -/
theorem cell_val_new (w : World) (a : Value) (t : TypeId) : ∀ j u, [a][j]? = some u → (w.alloc (.cells #[a] t)).cell? (Addr.add ⟨w.heap.size, 0, none⟩ j) = some u := by
  intro j u hj
  have hl : j < 1 := (List.getElem?_eq_some_iff.1 hj).1
  have ha : Addr.add ⟨w.heap.size, 0, none⟩ j = ⟨w.heap.size, j, none⟩ := by first | (simp [Addr.add]; done) | (simp [Addr.add]; omega)
  rw [ha]
  exact (Blk.new w t _).c j (by rw [← hj]; simp)
theorem own_below {B : Nat} {e : TypeId} {k : Nat} {v : Value} {n : Nat} {xs : List Value} {w w' : World} (h : w.ownsRow B e k v n xs) (hb : Below w.heap.size w w') : w'.ownsRow B e k v n xs :=
  h.kept (row := none) ⟨hb.os, hb.tape, hb.output, hb.size, fun j hj _ => hb.block j hj⟩ (by cases hv : v.ownBlock <;> simp)
/-- A copy was returned, in a block of its own. -/
def CopyR (xs : List Int) (w : World) (e : Ending) (w' : World) : Prop := ∃ g c, e = .returned (.slice (some ⟨g, 0, none⟩) xs.length c) ∧ xs.length ≤ c ∧ w.heap.size ≤ g ∧ (∀ i, i < xs.length → w'.cell? ⟨g, i, none⟩ = some (.int .i64 (nth xs i))) ∧ Below w.heap.size w w'
set_option maxRecDepth 100000 in
theorem copy_any (b off n c : Nat) (xs : List Int) (w : World) (hI : Ints w (some ⟨b, off, none⟩) xs) (hl : xs.length = n) (hn : n ≤ 1000) (h0 : 0 < n) :
    Calls Try.prog 64 #[.slice (some ⟨b, off, none⟩) n c] w (CopyR xs w) := by
  have hs := Lib.hid (World.ownsRow_lit (base := w.heap.size) (e := 3) (size := 1) w #[] 0 (Nat.le_refl _) (by unfold maxLen; omega) rfl)
  have hI := Lib.hid (hI.next (b1 w (.cells #[] 3)))
  have hl := Lib.hid hl
  have qT : ∀ (w : World) (a : Option Addr) (n c : Nat), (binOp .eql 22 (.slice a n c) (.slice none 0 0)).run Try.prog w = .ok (.bool a.isNone) w := fun w a n c => run_eql_slice_nil w _ 3 a n c Try.underlying22
  go_enter Try.func64, Try.ntmps64
  go_wp2_with (at_builtin; refine wpList_copy rfl _ _ rfl w.heap.size _ rfl hs.out _ n c xs rfl hI.out hl.out (by simp) hn (by simp) ?_; intro a' c' w' hown' hg' hc' hI')
  go_ret
  obtain ⟨g, cap, e⟩ := own_pos hown' h0
  simp only [Value.slice.injEq, true_and] at e
  obtain ⟨rfl, rfl⟩ := e
  have h1 := own_ints hown'
  refine ⟨g, c', by rw [hl.out]; rfl, by rw [hl.out]; exact hc', (hown'.lt g rfl).1, fun i hi => ?_, (b1 _ _).grown hg' (by simp) (fun q hq => by have := (hs.out.lt q hq).1; omega)⟩
  have := h1.2 i (by have := hl.out; omega)
  rwa [Nat.zero_add] at this
/-- What is wrong with the size of a full bar. -/
def szE (r c : Int) : Int := if r < 1 ∨ 6 < r ∨ c < 1 ∨ 7 < c then 2 else if 24 < r * c then 8 else 0
theorem szE_bad {r c : Int} (h : r < 1 ∨ 6 < r ∨ c < 1 ∨ 7 < c) : szE r c = 2 := if_pos h
theorem mul_small {r c : Int} (h1 : 1 ≤ r) (h2 : r ≤ 6) (h3 : 1 ≤ c) (h4 : c ≤ 7) : 1 ≤ r * c ∧ r * c ≤ 42 := by
  have e1 : 0 ≤ (r - 1) * (c - 1) := Int.mul_nonneg (by omega) (by omega)
  have e2 : 0 ≤ (6 - r) * (7 - c) := Int.mul_nonneg (by omega) (by omega)
  have e3 : 0 ≤ (6 - r) * (c - 1) := Int.mul_nonneg (by omega) (by omega)
  simp only [Int.sub_mul, Int.mul_sub] at e1 e2 e3
  omega
theorem sizeError_any (r c : Int) (w : World) : Calls Try.prog 67 #[.int .i64 r, .int .i64 c] w (Only (.int .i64 (szE r c)) w) := by
  by_cases h : r < 1 ∨ 6 < r ∨ c < 1 ∨ 7 < c
  · rw [szE_bad h]
    have h' : r < 1 ∨ 1 ≤ r ∧ 6 < r ∨ 1 ≤ r ∧ r ≤ 6 ∧ c < 1 ∨ 1 ≤ r ∧ r ≤ 6 ∧ 1 ≤ c ∧ 7 < c := by omega
    clear h
    rcases h' with h | ⟨h1, h2⟩ | ⟨h1, h2, h3⟩ | ⟨h1, h2, h3, h4⟩
    all_goals
      go_enter Try.func67, Try.ntmps67
      go_wp2
      go_ret
      exact Only.mk rfl
  · have h1 : 1 ≤ r := by omega
    have h2 : r ≤ 6 := by omega
    have h3 : 1 ≤ c := by omega
    have h4 : c ≤ 7 := by omega
    obtain ⟨m1, m2⟩ := mul_small h1 h2 h3 h4
    have hz : Hid (szE r c = if 24 < r * c then 8 else 0) := Lib.hid (if_neg h)
    rw [hz.out]
    clear h
    by_cases hm : 24 < r * c
    · rw [if_pos hm]
      go_enter Try.func67, Try.ntmps67
      go_wp2
      go_ret
      exact Only.mk rfl
    · rw [if_neg hm]
      have hm' : r * c ≤ 24 := by omega
      clear hm
      go_enter Try.func67, Try.ntmps67
      go_wp2
      go_ret
      exact Only.mk rfl
end Go.Proofs.Ytdafpjapepfniaa
