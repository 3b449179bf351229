/- Layer 7, by the specification: the table of Grundy's numbers. -/
import Derived.Test.YtdafpjapepfniaaGb
import Derived.Test.YtdafpjapepfniaaWs
namespace Go.Proofs.Ytdafpjapepfniaa
set_option linter.unusedSimpArgs false
set_option linter.unusedVariables false
open Go Go.RowKit

def rowI (n k : Nat) : List Int := (List.range k).map fun j => ((gr n j : Nat) : Int)
theorem rowI_length (n k : Nat) : (rowI n k).length = k := by simp [rowI]
theorem rowI_succ (n k : Nat) : rowI n (k + 1) = rowI n k ++ [((gr n k : Nat) : Int)] := by simp [rowI, List.range_succ]
theorem rowI_nth {n k i : Nat} (h : i < k) : nth (rowI n k) i = ((gr n i : Nat) : Int) := by simp [nth, rowI, h]
theorem rowI_one (n : Nat) : lI (rowI n 1) = [.int .i64 0] := by
  have : rowI n 1 = [((gr n 0 : Nat) : Int)] := rfl
  rw [this, gr_0]
  rfl
def rowsT (g c : Nat → Nat) (k : Nat) : List Value := (List.range k).map fun i => .slice (some ⟨g i, 0, none⟩) (i + 1) (c i)
theorem rowsT_length (g c : Nat → Nat) (k : Nat) : (rowsT g c k).length = k := by simp [rowsT]
theorem rowsT_get {g c : Nat → Nat} {k i : Nat} (h : i < k) : (rowsT g c k)[i]? = some (.slice (some ⟨g i, 0, none⟩) (i + 1) (c i)) := by simp [rowsT, h]
theorem rowsT_put (g c : Nat → Nat) (k a b : Nat) : rowsT (fun i => if i = k then a else g i) (fun i => if i = k then b else c i) (k + 1) = rowsT g c k ++ [.slice (some ⟨a, 0, none⟩) (k + 1) b] := by
  unfold rowsT
  rw [List.range_succ, List.map_append]
  congr 1
  · refine List.map_congr_left fun i hi => ?_
    have := List.mem_range.1 hi
    dsimp only
    rw [if_neg (by omega), if_neg (by omega)]
  · simp
def RowsOwn (w : World) (base k : Nat) (g c : Nat → Nat) : Prop := ∀ i, i < k → w.ownsRow base 3 1 (.slice (some ⟨g i, 0, none⟩) (i + 1) (c i)) (i + 1) (lI (rowI i (i + 1)))
theorem RowsOwn.next {w w' : World} {base k : Nat} {g c : Nat → Nat} (h : RowsOwn w base k g c) (hb : Below w.heap.size w w') : RowsOwn w' base k g c := fun i hi => owns_next (h i hi) hb
theorem RowsOwn.cell {w : World} {base k : Nat} {g c : Nat → Nat} (h : RowsOwn w base k g c) {i t : Nat} (hi : i < k) (ht : t ≤ i) : w.cell? ⟨g i, t, none⟩ = some (.int .i64 ((gr i t : Nat) : Int)) := by
  rw [(h i hi).cellAt t (by omega), lI_get (by rw [rowI_length]; omega), rowI_nth (by omega)]
theorem RowsOwn.grown {w w' : World} {base k n : Nat} {e : TypeId} {g c : Nat → Nat} {v : Value} {xs : List Value} (h : RowsOwn w base k g c) (ho : w.ownsRow base e 1 v n xs) (he : 3 ≠ e) (hg : w.grownBy w' v.ownBlock) : RowsOwn w' base k g c := fun i hi =>
  (h i hi).kept hg (.inr (fun e' => own_apart (h i hi) ho he e'.symm))
theorem RowsOwn.put {w : World} {base k a b : Nat} {g c : Nat → Nat} (h : RowsOwn w base k g c) (hk : w.ownsRow base 3 1 (.slice (some ⟨a, 0, none⟩) (k + 1) b) (k + 1) (lI (rowI k (k + 1)))) : RowsOwn w base (k + 1) (fun i => if i = k then a else g i) (fun i => if i = k then b else c i) := fun i hi => by
  dsimp only
  by_cases e : i = k
  · subst e
    rw [if_pos rfl, if_pos rfl]
    exact hk
  · rw [if_neg e, if_neg e]
    exact h i (by omega)
/-- A call returned the table up to H. -/
def TableR (H : Nat) (w : World) (e : Ending) (w' : World) : Prop := ∃ (B C : Nat) (g c : Nat → Nat), e = .returned (.slice (some ⟨B, 0, none⟩) (H + 1) C) ∧ (∀ i, i < H + 1 → w'.cell? ⟨B, i, none⟩ = some (.slice (some ⟨g i, 0, none⟩) (i + 1) (c i))) ∧ (∀ i t, i < H + 1 → t ≤ i → w'.cell? ⟨g i, t, none⟩ = some (.int .i64 ((gr i t : Nat) : Int))) ∧ Below w.heap.size w w'
set_option maxRecDepth 100000 in
set_option maxHeartbeats 16000000 in
theorem table_any (H : Nat) (w : World) (hH : H ≤ 200) : Calls Try.prog 50 #[.int .i64 (H : Int)] w (TableR H w) := by
  obtain ⟨i0, hi, hz0, hz1, hz2⟩ := info_parts infoInt
  have G0 := Lib.hid hi
  have G1 := Lib.hid hz0
  have G2 := Lib.hid hz1
  have G3 := Lib.hid hz2
  clear hi hz0 hz1 hz2
  obtain ⟨j0, hi, hz0, hz1, hz2⟩ := info_parts infoRow
  have R0 := Lib.hid hi
  have R1 := Lib.hid hz0
  have R2 := Lib.hid hz1
  have R3 := Lib.hid hz2
  clear hi hz0 hz1 hz2
  obtain ⟨N, hN⟩ : ∃ N, H + 2 = N := ⟨_, rfl⟩
  have eN : (H : Int) + 2 = (N : Int) := by omega
  have m2 := make_bools N (by omega)
  unfold TableR
  have s1 : Hid (∀ n, cF (fun _ => false) N = cV (gMet n 0) N) := Lib.hid fun n => cV_ext fun i hi => by
    unfold gMet
    rw [decide_eq_false (by simp [mv])]
  have hmet : Hid (∀ n t, 1 ≤ t → t ≤ n → (∀ u, u ≠ gr (n - t) (min (2 * t) (n - t)) → gMet n (t - 1) u = gMet n t u) ∧ gMet n t (gr (n - t) (min (2 * t) (n - t))) = .bool true) := Lib.hid fun n t h1 h2 => by
    obtain ⟨p, rfl⟩ : ∃ p, t = p + 1 := ⟨t - 1, by omega⟩
    unfold gMet
    rw [mv_succ, Nat.add_sub_cancel]
    refine ⟨fun u hu => ?_, by rw [decide_eq_true (by simp)]⟩
    congr 1
    rw [decide_eq_decide]
    simp [hu]
  have hmex : Hid (∀ n t, t ≤ n → IsMex (mv gr n t) (gr n t) ∧ gr n t ≤ t) := Lib.hid fun n t ht => gr_is n t ht
  have hmono : Hid (∀ n t, 1 ≤ t → t ≤ n → gr n (t - 1) ≤ gr n t) := Lib.hid fun n t h1 ht => gr_mono (by omega) ht
  have hle : Hid (∀ r m, m ≤ r → gr r m ≤ m) := Lib.hid fun r m h => (gr_is r m h).2
  have hmet0 : Hid (∀ n t u, gMet n t u = .bool (decide (u ∈ mv gr n t))) := Lib.hid fun _ _ _ => rfl
  have hg0 := Lib.hid gr_0
  go_enter Try.func50, Try.ntmps50
  go_wp2
  go_loopw [3, 4, 5, 6, 7, 8] (fun v h _ _ _ _ wr => ∃ (k : Nat) (g c : Nat → Nat), k ≤ H + 1 ∧ h = .int .i64 k ∧ wr.ownsRow w.heap.size 22 1 v k (rowsT g c k) ∧ RowsOwn wr w.heap.size k g c ∧ Below w.heap.size w wr) (fun _ h _ _ _ _ _ => H + 1 - (intOf h).toNat)
  case atStart => exact ⟨0, fun _ => 0, fun _ => 0, by omega, rfl, World.ownsRow_nil _ _ _ _, fun i hi => by omega, Below.refl _ _⟩
  case round =>
    obtain ⟨k, g, c, hk, rfl, hout, hrows, B0⟩ := hrel
    by_cases hlt : k ≤ H
    · obtain ⟨w0, hw0⟩ : ∃ w0, w0 = wr := ⟨_, rfl⟩
      subst hw0
      have hlt' : (k : Int) ≤ (H : Int) := by omega
      have k1 := (Blk.new w0 4 (cF (fun _ => false) N)).alloc (.cells #[.int .i64 0] 3)
      rw [s1.out k] at k1
      have ow := World.ownsRow_lit (base := w0.heap.size + 1) (e := 3) (size := 1) (w0.alloc (.cells (cF (fun _ => false) N) 4)) #[.int .i64 0] 1 (by simp) (by unfold maxLen; omega) rfl
      rw [World.size_alloc, show (#[Value.int .i64 0]).toList = lI (rowI k 1) from (rowI_one k).symm] at ow
      rw [s1.out k] at ow
      have B2 := b2 w0 (.cells (cV (gMet k 0) N) 4) (.cells #[.int .i64 0] 3)
      rw [s1.out k] at m2
      replace k1 := Lib.hid k1
      replace ow := Lib.hid ow
      replace B2 := Lib.hid B2
      replace hout := Lib.hid hout
      replace hrows := Lib.hid hrows
      replace B0 := Lib.hid B0
      go_wp2
      go_loopw [6, 7, 8] (fun row x t wi => ∃ j : Nat, 1 ≤ j ∧ j ≤ k + 1 ∧ x = .int .i64 ((gr k (j - 1) : Nat) : Int) ∧ t = .int .i64 j ∧ Blk wi w0.heap.size 4 (cV (gMet k (j - 1)) N) ∧ wi.ownsRow (w0.heap.size + 1) 3 1 row j (lI (rowI k j)) ∧ Below w0.heap.size w0 wi) (fun _ _ t _ => k + 1 - (intOf t).toNat)
      case atStart => exact ⟨1, by omega, by omega, by rw [show 1 - 1 = 0 from rfl, hg0.out]; rfl, rfl, k1.out, ow.out, B2.out⟩
      case round =>
        clear k1 ow B2
        obtain ⟨t, ht1, htk, rfl, rfl, k1, ow, B1⟩ := hrel
        by_cases hin : t ≤ k
        · have hin' : (t : Int) ≤ (k : Int) := by omega
          obtain ⟨Bo, Co, rfl⟩ := own_pos hout.out (by omega)
          obtain ⟨R, hR⟩ : ∃ R, k - t = R := ⟨_, rfl⟩
          have eR : (k : Int) - (t : Int) = (R : Int) := by omega
          obtain ⟨m, hm⟩ : ∃ m, min (2 * t) R = m := ⟨_, rfl⟩
          have em : min (2 * (t : Int)) (R : Int) = (m : Int) := by omega
          have hRk : R < k := by omega
          have hmR : m ≤ R := by omega
          have c0 : w0.cell? ⟨Bo, R, none⟩ = some (.slice (some ⟨g R, 0, none⟩) (R + 1) (c R)) := by rw [hout.out.cellAt R (by omega), rowsT_get hRk]
          have hR0 := cellB B1 c0
          have hv0 := cellB B1 (hrows.out.cell hRk hmR)
          have hv := hle.out R m hmR
          obtain ⟨hs1, hs2⟩ := hmet.out k t ht1 hin
          rw [hR, hm] at hs1 hs2
          have hmo := hmono.out k t ht1 hin
          obtain ⟨⟨hx1, hx2⟩, hx3⟩ := hmex.out k t hin
          obtain ⟨L, hL⟩ : ∃ L, R + 1 = L := ⟨_, rfl⟩
          rw [hL] at hR0
          clear c0
          generalize gr R m = v at *
          have hvN : v < N := by omega
          have x0 := k1.c v (cV_get hvN)
          have xf := k1.fr v
          have hsl := k1.lt
          have k1' := k1.setA (i := v) (.bool true)
          rw [← hs2, cV_set hvN (fun i _ hi => hs1 i hi), hs2] at k1'
          replace k1' := Lib.hid k1'
          have ow' := Lib.hid (ownsRow_setCell_below ow (a := ⟨w0.heap.size, v, none⟩) (by simp) (.bool true))
          have B2 := Lib.hid (B1.setCell (p := ⟨w0.heap.size, v, none⟩) (by simp) (.bool true))
          clear k1 ow B1 hs1 hs2 hR hm
          replace hx1 := Lib.hid hx1
          replace hx2 := Lib.hid hx2
          generalize gr k (t - 1) = y at *
          go_wp2
          have hsl' := k1'.out.lt
          generalize wr.setCell ⟨w0.heap.size, v, none⟩ (.bool true) = W1 at *
          go_loop [7] (fun x => ∃ i : Nat, y ≤ i ∧ i ≤ gr k t ∧ x = .int .i64 i) (fun x => gr k t - (intOf x).toNat)
          case atStart => exact ⟨y, Nat.le_refl _, hmo, rfl⟩
          case round =>
            obtain ⟨x, hxy, hxg, rfl⟩ := hrel
            have y0 := k1'.out.c x (cV_get (by omega))
            rw [hmet0.out] at y0
            by_cases hend : x < gr k t
            · rw [decide_eq_true (hx2.out x hend)] at y0
              go_wp2
              go_round
              case rel => exact ⟨x + 1, by omega, by omega, by go_num⟩
              case measure => simp [intOf]; omega
            · obtain rfl : x = gr k t := by omega
              rw [decide_eq_false hx1.out] at y0
              have hl2 : (lI (rowI k t)).length = t := by rw [lI_length, rowI_length]
              go_wp2_with (at_builtin; refine wpList_append_own _ rfl _ _ 22 rfl (w0.heap.size + 1) 3 i0 (.int .i64 0) 1 8 Try.underlying22 G0.out G1.out G2.out G3.out rfl (by decide) _ _ _ rfl (ow'.out.alloc _) ⟨_, 0, none⟩ 1 1 [.int .i64 ((gr k t : Nat) : Int)] rfl rfl (cell_one_new _ _ _) (by simp [Value.oneCell']) (by unfold maxLen; omega) (by omega) (by simp; omega) ?_; intro v' w2 hown2 hgrow _)
              have hsz := B2.out.size
              have k3 := blk_grown (k1'.out.alloc _) hgrow (fun e => by have := (ow'.out.lt _ e.symm).1; omega)
              have B3 := (B2.out.alloc hsz _).grown hgrow (by simp; omega) (fun q hq => by have := (ow'.out.lt q hq).1; omega)
              go_roundw
              case rel => exact ⟨t + 1, by omega, by omega, by rw [Nat.add_sub_cancel], by go_num, by rw [Nat.add_sub_cancel]; exact k3, by rw [rowI_succ, lI_snoc]; exact hown2, B3⟩
              case measure => simp [intOf]; omega
        · obtain rfl : t = k + 1 := by omega
          obtain ⟨a, b, rfl⟩ := own_pos ow (by omega)
          have hout2 := owns_next hout.out B1
          have hrows2 := hrows.out.next B1
          have B2 := nextB B0.out B1
          have hs2 := B2.size
          have hin' : (k : Int) < ((k + 1 : Nat) : Int) := by omega
          have ow2 := owns_base (base := w.heap.size) ow (by have := B0.out.size; omega)
          replace hout2 := Lib.hid hout2
          replace hrows2 := Lib.hid hrows2
          replace B2 := Lib.hid B2
          replace ow2 := Lib.hid ow2
          clear ow k1 hout hrows B0
          go_wp2_with (at_builtin; refine wpList_append_own _ rfl _ _ 41 rfl w.heap.size 22 j0 (.slice none 0 0) 1 24 Try.underlying41 R0.out R1.out R2.out R3.out rfl (by decide) _ _ _ rfl (hout2.out.alloc _) ⟨_, 0, none⟩ 1 1 [.slice (some ⟨a, 0, none⟩) (k + 1) b] rfl rfl (cell_val_new _ _ _) (by simp [Value.oneCell']) (by unfold maxLen; omega) (by omega) (by simp; omega) ?_; intro v' w2 hown2 hgrow _)
          have hr3 := RowsOwn.grown (fun i hi => (hrows2.out i hi).alloc _) (hout2.out.alloc _) (by decide) hgrow
          have hk3 := (ow2.out.alloc _).kept hgrow (.inr (fun e' => own_apart ow2.out hout2.out (by decide) e'.symm))
          have B3 := (B2.out.alloc hs2 _).grown hgrow (by simp; omega) (fun q hq => by have := (hout2.out.lt q hq).1; omega)
          go_roundw
          case rel => exact ⟨k + 1, _, _, by omega, by go_num, by rw [rowsT_put]; exact hown2, hr3.put hk3, B3⟩
          case measure => simp [intOf]; omega
    · obtain rfl : k = H + 1 := by omega
      obtain ⟨Bo, Co, rfl⟩ := own_pos hout (by omega)
      have hlt' : (H : Int) < ((H + 1 : Nat) : Int) := by omega
      have f1 : Hid (∀ i, i < H + 1 → wr.cell? ⟨Bo, i, none⟩ = some (.slice (some ⟨g i, 0, none⟩) (i + 1) (c i))) := Lib.hid fun i hi => by rw [hout.cellAt i (by omega), rowsT_get hi]
      have f2 : Hid (∀ i t, i < H + 1 → t ≤ i → wr.cell? ⟨g i, t, none⟩ = some (.int .i64 ((gr i t : Nat) : Int))) := Lib.hid fun i t hi ht => hrows.cell hi ht
      replace B0 := Lib.hid B0
      clear hout hrows
      generalize hp : H + 1 = p at *
      go_wp2
      go_ret
      subst hp
      exact ⟨Bo, Co, g, c, rfl, f1.out, f2.out, B0.out⟩
end Go.Proofs.Ytdafpjapepfniaa
