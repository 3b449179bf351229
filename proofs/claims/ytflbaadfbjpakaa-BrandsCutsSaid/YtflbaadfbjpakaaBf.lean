/- Layer 2: which lists are brands: the program's test walks all lines. -/
import Derived.Test.YtflbaadfbjpakaaBe
import Derived.OneCell
namespace Go.Proofs.Ytflbaadfbjpakaa
open Go Go.RowKit

/-- Block B holds these cells. -/
def Blk (W : World) (B : Nat) (t : TypeId) (cs : Array Value) : Prop := W.heap[B]? = some (.cells cs t (0, 0))
theorem Blk.lt {W : World} {B : Nat} {t : TypeId} {cs : Array Value} (h : Blk W B t cs) : B < W.heap.size := (Array.getElem?_eq_some_iff.1 h).1
theorem Blk.ext {W W' : World} {B : Nat} {t : TypeId} {cs : Array Value} (h : Blk W B t cs) (hb : Below W.heap.size W W') : Blk W' B t cs := (hb.block _ h.lt).trans h
theorem Blk.c {W : World} {B : Nat} {t : TypeId} {cs : Array Value} (h : Blk W B t cs) (i : Nat) {v : Value} (hv : cs[i]? = some v) : W.cell? ⟨B, i, none⟩ = some v := by unfold Blk at h; simp [World.cell?, h, hv]
theorem Blk.fr {W : World} {B : Nat} {t : TypeId} {cs : Array Value} (h : Blk W B t cs) (i : Nat) : W.frozen? ⟨B, i, none⟩ = false := by unfold Blk at h; simp [World.frozen?, h]
theorem Blk.new (W : World) (t : TypeId) (cs : Array Value) : Blk (W.alloc (.cells cs t)) W.heap.size t cs := heap_alloc_new W _
theorem Blk.alloc {W : World} {B : Nat} {t : TypeId} {cs : Array Value} (h : Blk W B t cs) (o : Obj) : Blk (W.alloc o) B t cs := h.ext (b1 W o)
theorem Blk.other {W : World} {B B' i : Nat} {t : TypeId} {cs : Array Value} (h : Blk W B t cs) (hne : B ≠ B') (u : Value) : Blk (W.setCell ⟨B', i, none⟩ u) B t cs := (Below.heap_setCell W ⟨B', i, none⟩ u B hne).trans h

theorem cmpL_neg' {p q : Int × Int} : ¬ 0 ≤ cmpL p q ↔ LexP p q := by rw [← cmpL_neg]; omega
set_option maxRecDepth 100000 in
set_option maxHeartbeats 4000000 in
theorem brandOf_in (n : Int) (b off m c : Nat) (L : List (Int × Int)) (w : World) (hl : L.length = m) (h3 : 3 ≤ n) (h12 : n ≤ 12) (hmn : (m : Int) = n - 3) (hcap : m ≤ c)
    (hc : ∀ i, i < m → w.cell? ⟨b, off + i * 2, none⟩ = some (.int .i64 (pth L i).1) ∧ w.cell? ⟨b, off + i * 2 + 1, none⟩ = some (.int .i64 (pth L i).2)) :
    Calls Try.prog 48 #[.int .i64 n, .slice (some ⟨b, off, none⟩) m c] w (Ret (brandV n (some ⟨b, off, none⟩) m c (decide (BrandP n L))) w) := by
  replace hc := Lib.hid hc
  have hB : Hid (BrandP n L ↔ ∀ i, i < m → OkL n L i) := ⟨fun h i hi => h.2.2.2 i (by omega), fun h => ⟨h3, h12, by omega, fun i hi => h i (by omega)⟩⟩
  have g0 : ((m : Int) != n - 3) = false := by rw [bne_eq_false_iff_eq]; omega
  have hm9 : m ≤ 9 := by omega
  clear hl
  replace hmn := Lib.hid hmn
  go_enter Try.func48, Try.ntmps48
  go_wp2
  have R0 := Blk.new w 66 #[.int .i64 0, .slice none 0 0]
  have B0 := b1 w (.cells #[.int .i64 0, .slice none 0 0] 66)
  clear g0
  go_loopw [26] (fun i wr => ∃ k : Nat, k ≤ m ∧ i = .int .i64 k ∧ (∀ j, j < k → OkL n L j) ∧ Blk wr w.heap.size 66 #[.int .i64 0, .slice none 0 0] ∧ Below w.heap.size w wr) (fun i _ => m - (intOf i).toNat)
  case atStart => exact ⟨0, by omega, rfl, fun j hj => absurd hj (by omega), R0, B0⟩
  case round =>
    clear R0 B0
    obtain ⟨k, hk, rfl, hok, R0, B0⟩ := hrel
    by_cases hlt : k < m
    · replace hok := Lib.hid hok
      obtain ⟨e0, e1⟩ := hc.out k hlt
      replace e0 := cellB B0 e0
      replace e1 := cellB B0 e1
      have hi0 : (0 : Int) ≤ (k : Int) := by omega
      have hi1 : (k : Int) < (m : Int) := by omega
      have D := fun W => isLine_any n (pth L k).1 (pth L k).2 W (by omega) (by omega)
      go_wp2_with fail
      have X0 := Blk.new wr 60 #[.int .i64 (pth L k).1, .int .i64 (pth L k).2]
      refine calls_at (F := fun W => Blk W wr.heap.size 60 #[.int .i64 (pth L k).1, .int .i64 (pth L k).2] ∧ Below wr.heap.size wr W) ⟨X0, b1 _ _⟩ ?_
      clear X0
      rintro W ⟨X0, C0⟩
      cases g : decide (LineP n ((pth L k).1, (pth L k).2))
      all_goals rw [g] at D
      · refine (D W).mono ?_
        rintro e w1 ⟨rfl, hb1⟩
        dsimp only
        replace C0 := nextB C0 hb1
        replace R0 := R0.ext C0
        replace B0 := nextB B0 C0
        have r0 := R0.c 0 rfl
        have r1 := R0.c 1 rfl
        have f0 := R0.fr 0
        have f1 := R0.fr 1
        have hlt1 := R0.lt
        clear C0 hb1 X0 e0 e1 D
        go_wp2
        refine bodyPost_ret (v := .tuple #[.agg #[.int .i64 0, .slice none 0 0], .bool false]) (by simp [results, Try.results48, go_sem, r0, r1]) rfl ?_
        rw [brandV_no (fun h => by have := (hB.out.1 h k hlt).1; exact absurd this (of_decide_eq_false g))]
        exact Ret.mk rfl ((B0.setCell (by simp) _).setCell (by simp) _)
      · refine (D W).mono ?_
        rintro e w1 ⟨rfl, hb1⟩
        dsimp only
        replace C0 := nextB C0 hb1
        replace X0 := X0.ext hb1
        replace R0 := R0.ext C0
        replace B0 := nextB B0 C0
        have hg := Lib.hid (show LineP n (pth L k) from of_decide_eq_true g)
        have hb : b < wr.heap.size := block_lt_of_cell e0
        have hkc : k ≤ c := by omega
        clear C0 hb1 e0 e1 D g hb
        go_wp2
        generalize wr.heap.size = zr at *
        go_loopw [40] (fun i wi => ∃ j : Nat, j ≤ k ∧ i = .int .i64 j ∧ (∀ q, q < j → LexP (pth L q) (pth L k) ∧ ¬ CutP (pth L q) (pth L k)) ∧ Blk wi zr 60 #[.int .i64 (pth L k).1, .int .i64 (pth L k).2] ∧ Blk wi w.heap.size 66 #[.int .i64 0, .slice none 0 0] ∧ Below w.heap.size w wi) (fun i _ => k - (intOf i).toNat)
        case atStart => exact ⟨0, by omega, rfl, fun j hj => absurd hj (by omega), X0, R0, B0⟩
        case round =>
          clear X0 R0 B0
          obtain ⟨j, hj, rfl, hoj, X0, R0, B0⟩ := hrel
          by_cases hjk : j < k
          · replace hoj := Lib.hid hoj
            obtain ⟨e0, e1⟩ := hc.out j (by omega)
            replace e0 := cellB B0 e0
            replace e1 := cellB B0 e1
            have hj0 : (0 : Int) ≤ (j : Int) := by omega
            have hj1 : (j : Int) < (k : Int) := by omega
            have x0 := X0.c 0 rfl
            have x1 := X0.c 1 rfl
            have xlt := X0.lt
            go_wp2_with fail
            refine calls_at (F := fun W => Blk W zr 60 #[.int .i64 (pth L k).1, .int .i64 (pth L k).2] ∧ Blk W wr.heap.size 60 #[.int .i64 (pth L j).1, .int .i64 (pth L j).2] ∧ Below wr.heap.size wr W) ⟨X0.alloc _, Blk.new wr _ _, b1 _ _⟩ ?_
            rintro W ⟨X1, Y1, C0⟩
            have D := cmpL_neg' (p := pth L j) (q := pth L k)
            refine (compare_any _ _ _ _ W).mono ?_
            rintro e w2 ⟨rfl, hb2⟩
            dsimp only
            change ¬ 0 ≤ cmpL ((pth L j).1, (pth L j).2) ((pth L k).1, (pth L k).2) ↔ _ at D
            generalize cmpL ((pth L j).1, (pth L j).2) ((pth L k).1, (pth L k).2) = cv at *
            replace X1 := X1.ext hb2
            replace Y1 := Y1.ext hb2
            replace C0 := nextB C0 hb2
            replace R0 := R0.ext C0
            replace B0 := nextB B0 C0
            have x0 := X1.c 0 rfl
            have x1 := X1.c 1 rfl
            have y0 := Y1.c 0 rfl
            have y1 := Y1.c 1 rfl
            clear C0 hb2 e0 e1 X0 xlt
            by_cases hcv : 0 ≤ cv
            · have r0 := R0.c 0 rfl
              have r1 := R0.c 1 rfl
              have f0 := R0.fr 0
              have f1 := R0.fr 1
              have hlt1 := R0.lt
              replace D := Lib.hid (fun h => (D.2 h) hcv)
              go_wp2
              refine bodyPost_ret (v := .tuple #[.agg #[.int .i64 0, .slice none 0 0], .bool false]) (by simp [results, Try.results48, go_sem, r0, r1]) rfl ?_
              rw [brandV_no (fun h => D.out ((hB.out.1 h k hlt).2 j hjk).1)]
              exact Ret.mk rfl ((B0.setCell (by simp) _).setCell (by simp) _)
            · replace D := Lib.hid (D.1 hcv)
              have E := fun W => cross_any (pth L j).1 (pth L j).2 (pth L k).1 (pth L k).2 W
              cases g : decide (CutP ((pth L j).1, (pth L j).2) ((pth L k).1, (pth L k).2))
              all_goals rw [g] at E
              · have g' := Lib.hid (of_decide_eq_false g)
                clear g
                go_wp2_with (go_at_call 73; refine (E _).mono ?_; rintro e w3 ⟨rfl, hb3⟩; replace X1 := X1.ext hb3; replace R0 := R0.ext hb3; replace B0 := nextB B0 hb3)
                go_roundw
                case rel => exact ⟨j + 1, by omega, by go_num, fun q hq => (by
                  by_cases hqj : q = j
                  · subst hqj; exact ⟨D.out, g'.out⟩
                  · exact hoj.out q (by omega)), X1, R0, B0⟩
                case measure => simp [intOf]; omega
              · have g' := Lib.hid (of_decide_eq_true g)
                clear g
                go_wp2_with (go_at_call 73; refine (E _).mono ?_; rintro e w3 ⟨rfl, hb3⟩; replace R0 := R0.ext hb3; replace B0 := nextB B0 hb3; have r0 := R0.c 0 rfl; have r1 := R0.c 1 rfl; have f0 := R0.fr 0; have f1 := R0.fr 1; have hlt1 := R0.lt)
                refine bodyPost_ret (v := .tuple #[.agg #[.int .i64 0, .slice none 0 0], .bool false]) (by simp [results, Try.results48, go_sem, r0, r1]) rfl ?_
                rw [brandV_no (fun h => ((hB.out.1 h k hlt).2 j hjk).2 g'.out)]
                exact Ret.mk rfl ((B0.setCell (by simp) _).setCell (by simp) _)
          · go_wp2
            go_roundw
            case rel => exact ⟨k + 1, by omega, by go_num, fun q hq => (by
              by_cases hqk : q = k
              · subst hqk; exact ⟨hg.out, fun i hi => hoj i (by omega)⟩
              · exact hok.out q (by omega)), R0, B0⟩
            case measure => simp [intOf]; omega
    · have r0 := R0.c 0 rfl
      have r1 := R0.c 1 rfl
      have f0 := R0.fr 0
      have f1 := R0.fr 1
      have hlt1 := R0.lt
      replace hok := Lib.hid hok
      go_wp2
      refine bodyPost_ret (v := .tuple #[.agg #[.int .i64 n, .slice (some ⟨b, off, none⟩) m c], .bool true]) (by simp [results, Try.results48, go_sem, r0, r1]) rfl ?_
      rw [brandV_yes (hB.out.2 fun i hi => hok.out i (by omega))]
      exact Ret.mk rfl ((B0.setCell (by simp) _).setCell (by simp) _)
end Go.Proofs.Ytflbaadfbjpakaa
