/- Layer 7, by the program: Grundy. -/
import Derived.Test.YtdafpjapepfniaaGa
namespace Go.Proofs.Ytdafpjapepfniaa
set_option linter.unusedSimpArgs false
set_option linter.unusedVariables false
open Go Go.RowKit

def gOut (g : Nat → Nat) (k i : Nat) : Value := if i < k then .slice (some ⟨g i, 0, none⟩) (i + 1) (i + 1) else .slice none 0 0
/-- The rows of the heaps below k lie in blocks behind s. -/
def RowsB (w : World) (s k : Nat) (g : Nat → Nat) : Prop := ∀ i, i < k → s < g i ∧ ∀ t, t ≤ i → w.cell? ⟨g i, t, none⟩ = some (.int .i64 ((gr i t : Nat) : Int))
theorem rows_of {w : World} {s k N : Nat} {t : TypeId} {g : Nat → Nat} (h : Blk w s t (cV (gOut g k) N)) (hk : k ≤ N) (hr : RowsB w s k g) : RowsG w s k g :=
  ⟨fun i hi => by
    have := h.c i (cV_get (by omega))
    unfold gOut at this
    rwa [if_pos hi] at this, fun i t hi ht => (hr i hi).2 t ht⟩
theorem RowsB.next {w w' : World} {s k : Nat} {g : Nat → Nat} (h : RowsB w s k g) (hb : Below w.heap.size w w') : RowsB w' s k g :=
  fun i hi => ⟨(h i hi).1, fun t ht => cellB hb ((h i hi).2 t ht)⟩
/-- Behind a store in the block s. -/
theorem RowsB.store {w : World} {s k j : Nat} {g : Nat → Nat} (h : RowsB w s k g) (v : Value) : RowsB (w.setCell ⟨s, j, none⟩ v) s k g :=
  fun i hi => ⟨(h i hi).1, fun t ht => (World.cell?_of_block (a := ⟨g i, t, none⟩) (Below.heap_setCell w ⟨s, j, none⟩ v (g i) (by have := (h i hi).1; exact fun e => by simp at e; omega))).trans ((h i hi).2 t ht)⟩
theorem gRow_cell {w : World} {b n m : Nat} {t : TypeId} (h : Blk w b t (cV (gRow n (n + 1)) m)) (hm : m = n + 1) : ∀ j, j ≤ n → w.cell? ⟨b, j, none⟩ = some (.int .i64 ((gr n j : Nat) : Int)) := fun j hj => by
  have := h.c j (cV_get (by omega))
  unfold gRow at this
  rwa [if_pos (by omega)] at this
set_option maxRecDepth 100000 in
set_option maxHeartbeats 8000000 in
theorem grundy_any (h l : Nat) (w : World) (hh : h ≤ 200) (hl : l ≤ 1099511627776) : Calls Try.prog 70 #[.int .i64 (h : Int), .int .i64 (l : Int)] w (Ret (.int .i64 ((gr h (min l h) : Nat) : Int)) w) := by
  obtain ⟨m, hm⟩ : ∃ m, min l h = m := ⟨_, rfl⟩
  rw [hm]
  have em : min (l : Int) (h : Int) = (m : Int) := by omega
  have hmh : m ≤ h := by omega
  obtain ⟨v, hv⟩ : ∃ v, Hid (gr h m = v) := ⟨_, Lib.hid rfl⟩
  rw [hv.out]
  clear hm
  obtain ⟨N, hN⟩ : ∃ N, h + 1 = N := ⟨_, rfl⟩
  have eN : (h : Int) + 1 = (N : Int) := by omega
  have m1 := make_rows N (by omega)
  have k0 := Blk.new w 22 (cV (fun _ => .slice none 0 0) N)
  have B0 := Lib.hid (b1 w (.cells (cV (fun _ => .slice none 0 0) N) 22))
  have s0 : ∀ g, cV (fun _ => .slice none 0 0) N = cV (gOut g 0) N := fun g => cV_ext fun i hi => by unfold gOut; rw [if_neg (by omega)]
  have k0' : Hid (∀ g, Blk (w.alloc (.cells (cV (fun _ => .slice none 0 0) N) 22)) w.heap.size 22 (cV (gOut g 0) N)) := Lib.hid fun g => by rw [← s0 g]; exact k0
  have hset : Hid (∀ (g : Nat → Nat) k b, k < N → (cV (gOut g k) N).setIfInBounds k (.slice (some ⟨b, 0, none⟩) (k + 1) (k + 1)) = cV (gOut (fun i => if i = k then b else g i) (k + 1)) N) := Lib.hid fun g k b hk => by
    have := cV_set (g := gOut g k) (g' := gOut (fun i => if i = k then b else g i) (k + 1)) hk (fun i hi hne => by
      unfold gOut
      by_cases e : i < k
      · rw [if_pos e, if_pos (by omega)]
        dsimp only
        rw [if_neg hne]
      · rw [if_neg e, if_neg (by omega)])
    rw [← this]
    congr 1
    unfold gOut
    rw [if_pos (by omega)]
    dsimp only
    rw [if_pos rfl]
  clear k0 s0
  go_enter Try.func70, Try.ntmps70
  go_wp2
  go_loopw [6, 12] (fun _ i wr => ∃ k : Nat, ∃ g : Nat → Nat, k ≤ N ∧ i = .int .i64 k ∧ Blk wr w.heap.size 22 (cV (gOut g k) N) ∧ RowsB wr w.heap.size k g ∧ Below w.heap.size w wr) (fun _ i _ => N - (intOf i).toNat)
  case atStart => exact ⟨0, fun _ => 0, by omega, rfl, k0'.out _, fun i hi => by omega, B0.out⟩
  case round =>
    clear k0' B0
    obtain ⟨k, g, hk, rfl, k0, hr, B1⟩ := hrel
    by_cases hlt : k < N
    · have hlt' : (k : Int) < (N : Int) := by omega
      have hkN : (k : Int) ≤ (N : Int) := by omega
      have G := Lib.hid (fun c => grundyRow_any w.heap.size k c g wr (by omega) (rows_of k0 hk hr))
      have hs1 := B1.size
      have hsz := k0.lt
      have k0' := Lib.hid k0
      clear k0
      unfold RowR at G
      replace B1 := Lib.hid B1
      go_wp2_with (go_at_call 82; refine (G.out _).mono ?_; rintro e w2 ⟨rfl, hb, B2⟩; have k1 := k0'.out.ext B2; have x0 := k1.c k (cV_get hlt); have xf := k1.fr k; replace k1 := Lib.hid k1; replace hb := Lib.hid hb; replace B2 := Lib.hid B2)
      have k2 := k1.out.setA (i := k) (.slice (some ⟨wr.heap.size, 0, none⟩) (k + 1) (k + 1))
      rw [hset.out g k _ hlt] at k2
      have B3 := (nextB B1.out B2.out).setCell (p := ⟨w.heap.size, k, none⟩) (by simp) (.slice (some ⟨wr.heap.size, 0, none⟩) (k + 1) (k + 1))
      have hr2 : RowsB w2 w.heap.size (k + 1) (fun i => if i = k then wr.heap.size else g i) := fun i hi => by
        dsimp only
        by_cases e : i = k
        · subst e
          rw [if_pos rfl]
          exact ⟨hsz, gRow_cell hb.out rfl⟩
        · rw [if_neg e]
          exact hr.next B2.out i (by omega)
      have hr3 := hr2.store (j := k) (.slice (some ⟨wr.heap.size, 0, none⟩) (k + 1) (k + 1))
      go_roundw
      case rel => exact ⟨k + 1, _, by omega, by go_num, k2, hr3, B3⟩
      case measure => simp [intOf]; omega
    · obtain rfl : k = N := by omega
      have hG := rows_of k0 hk hr
      have x0 := hG.1 h (by omega)
      have x1 := hG.2 h m (by omega) (by omega)
      have hhN : (h : Int) < (k : Int) := by omega
      have hmN : (m : Int) < (k : Int) := by omega
      rw [hN] at x0
      rw [hv.out] at x1
      replace B1 := Lib.hid B1
      clear k0 hr hG
      go_wp2
      go_ret
      exact Ret.mk rfl B1.out
theorem Grundy_yes (h l : Nat) (w : World) (hh : h ≤ 200) (hl : l ≤ 1099511627776) : Calls Try.prog 36 #[.int .i64 (h : Int), .int .i64 (l : Int)] w (Ret (numV ((gr h (min l h) : Nat) : Int) 0) w) := by
  have G := Lib.hid (fun W => grundy_any h l W hh hl)
  have H := isHeap_any l
  rw [decide_eq_true (show HeapP (l : Int) from ⟨by omega, by omega⟩)] at H
  replace H := Lib.hid H
  generalize gr h (min l h) = v at *
  go_enter Try.func36, Try.ntmps36
  go_wp2_with (first
    | (go_at_call 44; (with_reducible refine (H.out _).mono ?_); rintro e w1 ⟨rfl, rfl⟩)
    | (go_at_call 70; (with_reducible refine (G.out _).mono ?_); rintro e w2 ⟨rfl, hb2⟩; replace hb2 := Lib.hid hb2))
  go_ret2
  exact Ret.mk rfl hb2.out
end Go.Proofs.Ytdafpjapepfniaa
