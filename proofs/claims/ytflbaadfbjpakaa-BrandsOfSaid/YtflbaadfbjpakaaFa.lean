/- Layer 2: a line is put into its place, by the specification. -/
import Derived.Test.YtflbaadfbjpakaaDg
namespace Go.Proofs.Ytflbaadfbjpakaa
open Go Go.RowKit

theorem putL_at (x : Int × Int) : ∀ (L : List (Int × Int)) (t : Nat), t ≤ L.length → (∀ q, q < t → LexP (pth L q) x) → (t < L.length → ¬ LexP (pth L t) x) → putL L x = L.take t ++ x :: L.drop t := by
  intro L
  induction L with
  | nil => intro t ht _ _; obtain rfl : t = 0 := by simpa using ht
           rfl
  | cons y L ih =>
    intro t ht h1 h2
    cases t with
    | zero =>
      have hy : ¬ LexP y x := h2 (by simp)
      unfold putL
      rw [List.takeWhile_cons_of_neg (by simpa using hy), List.dropWhile_cons_of_neg (by simpa using hy)]
      rfl
    | succ t =>
      have hy : LexP y x := h1 0 (by omega)
      have := ih t (by simpa using ht) (fun q hq => h1 (q + 1) (by omega)) (fun h => h2 (by simpa using h))
      unfold putL at this ⊢
      rw [List.takeWhile_cons_of_pos (by simpa using hy), List.dropWhile_cons_of_pos (by simpa using hy), List.cons_append, this]
      rfl
theorem src_take {w : World} {b off m t : Nat} {L : List (Int × Int)} (hc : ∀ i, i < m → w.cell? ⟨b, off + i * 2, none⟩ = some (.int .i64 (pth L i).1) ∧ w.cell? ⟨b, off + i * 2 + 1, none⟩ = some (.int .i64 (pth L i).2)) (hl : L.length = m) (ht : t ≤ m) :
    PartOk w ⟨some ⟨b, off, none⟩, t, t, L.take t⟩ :=
  ⟨.inr ⟨b, off, rfl, fun j hj => by
    have hj2 : j < (L.take t).length := hj
    rw [List.length_take] at hj2
    have hj' : j < t := by omega
    rw [pth_take hj']
    exact hc j (by omega)⟩, by show (L.take t).length = t; rw [List.length_take, hl]; exact Nat.min_eq_left ht, fun h => by cases h⟩
theorem src_drop {w : World} {b off m t : Nat} {L : List (Int × Int)} (hc : ∀ i, i < m → w.cell? ⟨b, off + i * 2, none⟩ = some (.int .i64 (pth L i).1) ∧ w.cell? ⟨b, off + i * 2 + 1, none⟩ = some (.int .i64 (pth L i).2)) (hl : L.length = m) (ht : t ≤ m) :
    PartOk w ⟨some ⟨b, off + t * 2, none⟩, m - t, m - t, L.drop t⟩ :=
  ⟨.inr ⟨b, off + t * 2, rfl, fun j hj => by
    have hj2 : j < (L.drop t).length := hj
    rw [List.length_drop] at hj2
    have hj' : j + t < m := by omega
    rw [pth_drop]
    have := hc (t + j) (by omega)
    rw [show off + t * 2 + j * 2 = off + (t + j) * 2 by omega]
    exact this⟩, by show (L.drop t).length = m - t; rw [List.length_drop, hl], fun h => by cases h⟩
set_option maxRecDepth 100000 in
set_option maxHeartbeats 4000000 in
theorem refPut_any (a : Option Addr) (m c : Nat) (L : List (Int × Int)) (p0 p1 : Int) (w : World) (h : Prs w a L) (hl : L.length = m) (hcap : m ≤ c) (hnil : a = none → c = 0) (had : ∀ ad, a = some ad → ∃ b off, ad = ⟨b, off, none⟩) (hm : m ≤ 60) :
    Calls Try.prog 56 #[.slice a m c, .agg #[.int .i64 p0, .int .i64 p1]] w fun e w' => ∃ v, e = .returned v ∧
      w'.ownsRow w.heap.size 60 2 v (m + 1) (cP (putL L (p0, p1))) ∧ Below w.heap.size w w' := by
  obtain ⟨i0, hi0, hz0, hz1, hz2⟩ := info_parts infoPair
  have G0 := Lib.hid hi0
  have G1 := Lib.hid hz0
  have G2 := Lib.hid hz1
  have G3 := Lib.hid hz2
  clear hi0 hz0 hz1 hz2
  have hput := Lib.hid (putL_at (p0, p1) L)
  go_enter Try.func56, Try.ntmps56
  go_wp2
  have B0 := b1 w (.cells #[.int .i64 p0, .int .i64 p1] 60)
  have X0 := Blk.new w 60 #[.int .i64 p0, .int .i64 p1]
  generalize hW : w.alloc (.cells #[.int .i64 p0, .int .i64 p1] 60) = W at *
  clear hW
  have hsz : w.heap.size < W.heap.size := block_lt_of_cell (X0.c 0 rfl)
  cases a with
  | none =>
    have e2 := hnil rfl
    obtain rfl : m = 0 := by omega
    subst e2
    obtain rfl : L = [] := List.eq_nil_of_length_eq_zero hl
    clear hput h hl hnil hcap
    go_loopw [6] (fun i wr => i = .int .i64 0 ∧ Below W.heap.size W wr) (fun _ _ => 0)
    case atStart => exact ⟨rfl, Below.refl _ _⟩
    case round =>
      obtain ⟨rfl, C0⟩ := hrel
      go_wp2
      refine wp_region_ext (by kernel_rfl) (by kernel_rfl) ?_
      repeat (go_big_quiet_step (fail))
      refine wpQuiet_nil ?_
      rintro ⟨w1, hw1⟩
      dsimp only
      have C1 := nextB C0 hw1
      have X1 := X0.ext C1
      have B1 := nextB B0 C1
      clear C0 hw1 X0
      have y0 := X1.c 0 rfl
      have y1 := X1.c 1 rfl
      go_wp2_with (first
        | (at_builtin; refine wpList_append_own_none rfl _ _ 22 rfl w.heap.size 60 i0 2 Try.underlying22 G0.out _ _ _ rfl (World.ownsRow_nil _ _ _ _) rfl ?_)
        | (at_builtin; refine wpList_append_own _ rfl _ _ 22 rfl w.heap.size 60 i0 (.agg #[.int .i64 0, .int .i64 0]) 2 16 Try.underlying22 G0.out G1.out G2.out G3.out rfl (by decide) _ _ _ rfl (World.ownsRow_nil _ _ _ _) ⟨_, 0, none⟩ 1 1 [.int .i64 p0, .int .i64 p1] rfl rfl (cell_two_new _ _ _ _) (by simp [Value.oneCell']) (by unfold maxLen; omega) (by omega) (by have := B1.size; simp; omega) ?_; intro v2 w2 hown2 hgrow2 _)
        | (at_builtin; refine wpList_append_own_none rfl _ _ 22 rfl w.heap.size 60 i0 2 Try.underlying22 G0.out _ _ _ rfl hown2 rfl ?_))
      go_ret
      have hs1 := B1.size
      exact ⟨_, rfl, by simpa [putL, cP] using hown2, (B1.alloc hs1 _).grown hgrow2 (by simp; omega) (fun q hq => by cases hq)⟩
  | some ad =>
    obtain ⟨b, off, rfl⟩ := had ad rfl
    have hc : ∀ i, i < m → w.cell? ⟨b, off + i * 2, none⟩ = some (.int .i64 (pth L i).1) ∧ w.cell? ⟨b, off + i * 2 + 1, none⟩ = some (.int .i64 (pth L i).2) := by
      intro i hi
      rcases h with h0 | ⟨b', off', e, hh⟩
      · omega
      · cases e; exact hh i (by omega)
    replace hc := Lib.hid hc
    have hlm := Lib.hid hl
    rw [hl] at hput
    clear h hnil had
    go_loopw [6] (fun i wr => ∃ t : Nat, t ≤ m ∧ i = .int .i64 t ∧ (∀ q, q < t → LexP (pth L q) (p0, p1)) ∧ Below W.heap.size W wr) (fun i _ => m - (intOf i).toNat)
    case atStart => exact ⟨0, by omega, rfl, fun q hq => by omega, Below.refl _ _⟩
    case round =>
      obtain ⟨t, ht, rfl, hall, C0⟩ := hrel
      replace hall := Lib.hid hall
      have X1 := X0.ext C0
      by_cases hgo : t < m ∧ LexP (pth L t) (p0, p1)
      · obtain ⟨hlt, hlex⟩ := hgo
        have y0 := cellX (X1.c 0 rfl)
        have y1 := cellX (X1.c 1 rfl)
        have x0 := cellX (cellB C0 (cellB B0 (hc.out t hlt).1))
        have x1 := cellX (cellB C0 (cellB B0 (hc.out t hlt).2))
        have E := fun W => refBefore_any (pth L t).1 (pth L t).2 p0 p1 W
        rw [decide_eq_true (show LexP ((pth L t).1, (pth L t).2) (p0, p1) from hlex)] at E
        have hnx := Lib.hid (show ∀ q, q < t + 1 → LexP (pth L q) (p0, p1) from fun q hq => by
          by_cases e : q = t
          · subst e; exact hlex
          · exact hall.out q (by omega))
        clear hlex
        go_wp2
        refine wp_region_ext (by kernel_rfl) (by kernel_rfl) ?_
        repeat (go_big_quiet_step ((go_at_call 50; exact callE (E _))))
        refine wpQuiet_nil ?_
        rintro ⟨w1, hw1⟩
        dsimp only
        have C1 := nextB C0 hw1
        clear x0 x1 y0 y1 E hw1 C0
        go_wp2
        go_roundw
        case rel => exact ⟨t + 1, by omega, by go_num, hnx.out, C1⟩
        case measure => simp [intOf]; omega
      · have hp := Lib.hid (hput.out t ht hall.out fun h1 h2 => hgo ⟨h1, h2⟩)
        have stop : ∀ {w1 : World}, Below wr.heap.size wr w1 → Below W.heap.size W w1 := fun k => nextB C0 k
        have hcase : t = m ∨ (t < m ∧ ¬ LexP (pth L t) (p0, p1)) := by
          by_cases h1 : t < m
          · exact .inr ⟨h1, fun h2 => hgo ⟨h1, h2⟩⟩
          · exact .inl (by omega)
        clear hgo hall hput
        have hcap2 : t ≤ c := by omega
        obtain ⟨hlen, hlx⟩ : (t = m ∨ t < m) ∧ (t < m → ¬ LexP (pth L t) (p0, p1)) := ⟨by omega, fun h => by rcases hcase with h1 | ⟨_, h1⟩; omega; exact h1⟩
        clear hcase
        have hT := Lib.hid (show (L.take t).length = t by rw [List.length_take, hl]; omega)
        have hDr := Lib.hid (show (L.drop t).length = m - t by rw [List.length_drop, hl])
        by_cases htm : t < m
        · have hlx' := hlx htm
          have y0 := cellX (X1.c 0 rfl)
          have y1 := cellX (X1.c 1 rfl)
          have x0 := cellX (cellB C0 (cellB B0 (hc.out t htm).1))
          have x1 := cellX (cellB C0 (cellB B0 (hc.out t htm).2))
          have E := fun W => refBefore_any (pth L t).1 (pth L t).2 p0 p1 W
          rw [decide_eq_false (show ¬ LexP ((pth L t).1, (pth L t).2) (p0, p1) from hlx')] at E
          clear hlx hlx' hlen
          go_wp2
          refine wp_region_ext (by kernel_rfl) (by kernel_rfl) ?_
          repeat (go_big_quiet_step ((go_at_call 50; exact callE (E _))))
          refine wpQuiet_nil ?_
          rintro ⟨w1, hw1⟩
          dsimp only
          have C1 := stop hw1
          have X2 := X0.ext C1
          have B1 := nextB B0 C1
          clear x0 x1 y0 y1 E hw1 C0 X0 X1 stop
          have hs1 : w.heap.size + 1 ≤ w1.heap.size := by have := C1.size; omega
          have y0 : w1.cell? ⟨w.heap.size, 0, none⟩ = some (.int .i64 p0) := X2.c 0 rfl
          have y1 : w1.cell? ⟨w.heap.size, 1, none⟩ = some (.int .i64 p1) := X2.c 1 rfl
          have s1 := Lib.hid (part_src (src_take (w := w1) (fun i hi => ⟨cellB B1 (hc.out i hi).1, cellB B1 (hc.out i hi).2⟩) hlm.out ht) rfl)
          have s3 : Hid (∀ j u, (cP (L.drop t))[j]? = some u → w1.cell? ⟨b, off + t * 2 + j, none⟩ = some u) := Lib.hid fun j u hj => by
            have := part_src (src_drop (w := w1) (fun i hi => ⟨cellB B1 (hc.out i hi).1, cellB B1 (hc.out i hi).2⟩) hlm.out ht) rfl j u hj
            rwa [show Addr.add ⟨b, off + t * 2, none⟩ j = ⟨b, off + t * 2 + j, none⟩ by simp [Addr.add]] at this
          have hbw : b < w.heap.size := block_lt_of_cell (hc.out 0 (by omega)).1
          have hone1 := Lib.hid (cP_one (L.take t))
          have hone2 := Lib.hid (cP_one (L.drop t))
          have hc1 := Lib.hid (show (cP (L.take t)).length = t * 2 by rw [cP_length, hT.out])
          have hc2 := Lib.hid (show (cP (L.drop t)).length = (m - t) * 2 by rw [cP_length, hDr.out])
          clear hT hDr hl
          go_wp2_with (first
            | (at_builtin; refine wpList_append_own w1 rfl _ _ 22 rfl (w.heap.size + 1) 60 i0 (.agg #[.int .i64 0, .int .i64 0]) 2 16 Try.underlying22 G0.out G1.out G2.out G3.out rfl (by decide) _ _ _ rfl (World.ownsRow_nil _ _ _ _) ⟨b, off, none⟩ t c (cP (L.take t)) rfl hc1.out s1.out hone1.out (by unfold maxLen; omega) (by omega) hs1 ?_; intro v2 w2 hown2 hgrow2 _; change w1.grownBy w2 none at hgrow2; have y2 := hgrow2.cell y0 (by simp); have y3 := hgrow2.cell y1 (by simp); clear y0 y1)
            | (at_builtin; refine wpList_append_own _ rfl _ _ 22 rfl (w.heap.size + 1) 60 i0 (.agg #[.int .i64 0, .int .i64 0]) 2 16 Try.underlying22 G0.out G1.out G2.out G3.out rfl (by decide) _ _ _ rfl (hown2.alloc _) ⟨_, 0, none⟩ 1 1 [.int .i64 p0, .int .i64 p1] rfl rfl (cell_two_new _ _ _ _) (by simp [Value.oneCell']) (by unfold maxLen; omega) (by omega) (by have := hgrow2.size; simp; omega) ?_; intro v3 w3 hown3 hgrow3 _; change (w2.alloc _).grownBy w3 v2.ownBlock at hgrow3; have s4 : Hid (∀ j u, (cP (L.drop t))[j]? = some u → w3.cell? (Addr.add ⟨b, off + t * 2, none⟩ j) = some u) := Lib.hid fun j u hj => by (rw [show Addr.add ⟨b, off + t * 2, none⟩ j = ⟨b, off + t * 2 + j, none⟩ by simp [Addr.add]]; exact hgrow3.cell (cellB (b1 w2 _) (hgrow2.cell (s3.out j u hj) (by simp))) (fun e => by have := (hown2.lt b e.symm).1; omega)))
            | (at_builtin; refine wpList_append_own w3 rfl _ _ 22 rfl (w.heap.size + 1) 60 i0 (.agg #[.int .i64 0, .int .i64 0]) 2 16 Try.underlying22 G0.out G1.out G2.out G3.out rfl (by decide) _ _ _ rfl hown3 ⟨b, off + t * 2, none⟩ (m - t) (c - t) (cP (L.drop t)) rfl hc2.out s4.out hone2.out (by unfold maxLen; omega) (by omega) (by have := hgrow2.size; have := hgrow3.size; simp at this; omega) ?_; intro v4 w4 hown4 hgrow4 _))
          change w3.grownBy w4 v3.ownBlock at hgrow4
          go_ret
          have B2 := B1.grown hgrow2 B1.size (fun k hk => by cases hk)
          have B3 := (B2.alloc B2.size (.cells #[.int .i64 p0, .int .i64 p1] 60)).grown hgrow3 (by have := B2.size; simp; omega) (fun k hk => by have := (hown2.lt k hk).1; omega)
          have B4 := B3.grown hgrow4 B3.size (fun k hk => by have := (hown3.lt k hk).1; omega)
          refine ⟨_, rfl, ?_, B4⟩
          have ho := own_base hown4 (show w.heap.size ≤ w.heap.size + 1 by omega)
          rw [hp.out]
          have e1 : 0 + t + 1 + (m - t) = m + 1 := by omega
          have e2 : [] ++ cP (L.take t) ++ [.int .i64 p0, .int .i64 p1] ++ cP (L.drop t) = cP (L.take t ++ (p0, p1) :: L.drop t) := by simp [cP, List.flatMap_append, List.append_assoc]
          rw [e1, e2] at ho
          exact ho
        · clear hlx hlen
          obtain rfl : t = m := by omega
          by_cases hcm : t < c
          · go_wp2
            refine wp_region_ext (by kernel_rfl) (by kernel_rfl) ?_
            repeat (go_big_quiet_step (fail))
            refine wpQuiet_nil ?_
            rintro ⟨w1, hw1⟩
            dsimp only
            have C1 := stop hw1
            have X2 := X0.ext C1
            have B1 := nextB B0 C1
            clear hw1 C0 X0 X1 stop
            have hs1 : w.heap.size + 1 ≤ w1.heap.size := by have := C1.size; omega
            have y0 : w1.cell? ⟨w.heap.size, 0, none⟩ = some (.int .i64 p0) := X2.c 0 rfl
            have y1 : w1.cell? ⟨w.heap.size, 1, none⟩ = some (.int .i64 p1) := X2.c 1 rfl
            have s1 := Lib.hid (part_src (src_take (w := w1) (fun i hi => ⟨cellB B1 (hc.out i hi).1, cellB B1 (hc.out i hi).2⟩) hlm.out ht) rfl)
            have hone1 := Lib.hid (cP_one (L.take t))
            have hc1 := Lib.hid (show (cP (L.take t)).length = t * 2 by rw [cP_length, hT.out])
            clear hT hDr
            go_wp2_with (first
              | (at_builtin; refine wpList_append_own w1 rfl _ _ 22 rfl (w.heap.size + 1) 60 i0 (.agg #[.int .i64 0, .int .i64 0]) 2 16 Try.underlying22 G0.out G1.out G2.out G3.out rfl (by decide) _ _ _ rfl (World.ownsRow_nil _ _ _ _) ⟨b, off, none⟩ t c (cP (L.take t)) rfl hc1.out s1.out hone1.out (by unfold maxLen; omega) (by omega) hs1 ?_; intro v2 w2 hown2 hgrow2 _; change w1.grownBy w2 none at hgrow2; have y2 := hgrow2.cell y0 (by simp); have y3 := hgrow2.cell y1 (by simp); clear y0 y1)
              | (at_builtin; refine wpList_append_own _ rfl _ _ 22 rfl (w.heap.size + 1) 60 i0 (.agg #[.int .i64 0, .int .i64 0]) 2 16 Try.underlying22 G0.out G1.out G2.out G3.out rfl (by decide) _ _ _ rfl (hown2.alloc _) ⟨_, 0, none⟩ 1 1 [.int .i64 p0, .int .i64 p1] rfl rfl (cell_two_new _ _ _ _) (by simp [Value.oneCell']) (by unfold maxLen; omega) (by omega) (by have := hgrow2.size; simp; omega) ?_; intro v3 w3 hown3 hgrow3 _; change (w2.alloc _).grownBy w3 v2.ownBlock at hgrow3)
              | (at_builtin; refine wpList_append_own w3 rfl _ _ 22 rfl (w.heap.size + 1) 60 i0 (.agg #[.int .i64 0, .int .i64 0]) 2 16 Try.underlying22 G0.out G1.out G2.out G3.out rfl (by decide) _ _ _ rfl hown3 ⟨b, off + t * 2, none⟩ 0 (c - t) [] rfl rfl (fun j u hj => by simp at hj) (fun u hu => by simp at hu) (by unfold maxLen; omega) (by omega) (by have := hgrow2.size; have := hgrow3.size; simp at this; omega) ?_; intro v4 w4 hown4 hgrow4 _))
            change w3.grownBy w4 v3.ownBlock at hgrow4
            go_ret
            have B2 := B1.grown hgrow2 B1.size (fun k hk => by cases hk)
            have B3 := (B2.alloc B2.size (.cells #[.int .i64 p0, .int .i64 p1] 60)).grown hgrow3 (by have := B2.size; simp; omega) (fun k hk => by have := (hown2.lt k hk).1; omega)
            have B4 := B3.grown hgrow4 B3.size (fun k hk => by have := (hown3.lt k hk).1; omega)
            refine ⟨_, rfl, ?_, B4⟩
            have ho := own_base hown4 (show w.heap.size ≤ w.heap.size + 1 by omega)
            rw [hp.out]
            have e1 : 0 + t + 1 + 0 = t + 1 := by omega
            have e2 : [] ++ cP (L.take t) ++ [.int .i64 p0, .int .i64 p1] ++ [] = cP (L.take t ++ (p0, p1) :: L.drop t) := by rw [List.drop_of_length_le (by rw [hlm.out]; exact Nat.le_refl _)]; simp [cP, List.flatMap_append]
            rw [e1, e2] at ho
            exact ho
          · obtain rfl : t = c := by omega
            go_wp2
            refine wp_region_ext (by kernel_rfl) (by kernel_rfl) ?_
            repeat (go_big_quiet_step (fail))
            refine wpQuiet_nil ?_
            rintro ⟨w1, hw1⟩
            dsimp only
            have C1 := stop hw1
            have X2 := X0.ext C1
            have B1 := nextB B0 C1
            clear hw1 C0 X0 X1 stop
            have hs1 : w.heap.size + 1 ≤ w1.heap.size := by have := C1.size; omega
            have y0 : w1.cell? ⟨w.heap.size, 0, none⟩ = some (.int .i64 p0) := X2.c 0 rfl
            have y1 : w1.cell? ⟨w.heap.size, 1, none⟩ = some (.int .i64 p1) := X2.c 1 rfl
            have s1 := Lib.hid (part_src (src_take (w := w1) (fun i hi => ⟨cellB B1 (hc.out i hi).1, cellB B1 (hc.out i hi).2⟩) hlm.out ht) rfl)
            have hone1 := Lib.hid (cP_one (L.take t))
            have hc1 := Lib.hid (show (cP (L.take t)).length = t * 2 by rw [cP_length, hT.out])
            clear hT hDr
            go_wp2_with (first
              | (at_builtin; refine wpList_append_own w1 rfl _ _ 22 rfl (w.heap.size + 1) 60 i0 (.agg #[.int .i64 0, .int .i64 0]) 2 16 Try.underlying22 G0.out G1.out G2.out G3.out rfl (by decide) _ _ _ rfl (World.ownsRow_nil _ _ _ _) ⟨b, off, none⟩ t t (cP (L.take t)) rfl hc1.out s1.out hone1.out (by unfold maxLen; omega) (by omega) hs1 ?_; intro v2 w2 hown2 hgrow2 _; change w1.grownBy w2 none at hgrow2; have y2 := hgrow2.cell y0 (by simp); have y3 := hgrow2.cell y1 (by simp); clear y0 y1)
              | (at_builtin; refine wpList_append_own _ rfl _ _ 22 rfl (w.heap.size + 1) 60 i0 (.agg #[.int .i64 0, .int .i64 0]) 2 16 Try.underlying22 G0.out G1.out G2.out G3.out rfl (by decide) _ _ _ rfl (hown2.alloc _) ⟨_, 0, none⟩ 1 1 [.int .i64 p0, .int .i64 p1] rfl rfl (cell_two_new _ _ _ _) (by simp [Value.oneCell']) (by unfold maxLen; omega) (by omega) (by have := hgrow2.size; simp; omega) ?_; intro v3 w3 hown3 hgrow3 _; change (w2.alloc _).grownBy w3 v2.ownBlock at hgrow3)
              | (at_builtin; refine wpList_append_own w3 rfl _ _ 22 rfl (w.heap.size + 1) 60 i0 (.agg #[.int .i64 0, .int .i64 0]) 2 16 Try.underlying22 G0.out G1.out G2.out G3.out rfl (by decide) _ _ _ rfl hown3 ⟨b, off, none⟩ 0 0 [] rfl rfl (fun j u hj => by simp at hj) (fun u hu => by simp at hu) (by unfold maxLen; omega) (by omega) (by have := hgrow2.size; have := hgrow3.size; simp at this; omega) ?_; intro v4 w4 hown4 hgrow4 _))
            change w3.grownBy w4 v3.ownBlock at hgrow4
            go_ret
            have B2 := B1.grown hgrow2 B1.size (fun k hk => by cases hk)
            have B3 := (B2.alloc B2.size (.cells #[.int .i64 p0, .int .i64 p1] 60)).grown hgrow3 (by have := B2.size; simp; omega) (fun k hk => by have := (hown2.lt k hk).1; omega)
            have B4 := B3.grown hgrow4 B3.size (fun k hk => by have := (hown3.lt k hk).1; omega)
            refine ⟨_, rfl, ?_, B4⟩
            have ho := own_base hown4 (show w.heap.size ≤ w.heap.size + 1 by omega)
            rw [hp.out]
            have e1 : 0 + t + 1 + 0 = t + 1 := by omega
            have e2 : [] ++ cP (L.take t) ++ [.int .i64 p0, .int .i64 p1] ++ [] = cP (L.take t ++ (p0, p1) :: L.drop t) := by rw [List.drop_of_length_le (by rw [hlm.out]; exact Nat.le_refl _)]; simp [cP, List.flatMap_append]
            rw [e1, e2] at ho
            exact ho
end Go.Proofs.Ytflbaadfbjpakaa
