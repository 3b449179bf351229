/- Layer 7, by the program: a bar behind a bite; all of them. -/
import Derived.Test.YtdafpjapepfniaaWn
namespace Go.Proofs.Ytdafpjapepfniaa
open Go Go.RowKit

/-- The bite, made in the rows below k. -/
def woT (f : Nat → Nat) (r c k : Nat) : Nat → Nat := fun i => if r ≤ i ∧ i < k then min (f i) c else f i
theorem woT_start (f : Nat → Nat) (r c : Nat) : woT f r c r = f := by funext i; unfold woT; rw [if_neg (by omega)]
theorem woT_end {f : Nat → Nat} {r c : Nat} (h : IsB f) : woT f r c 6 = woF f r c := by
  funext i
  unfold woT woF
  by_cases h1 : r ≤ i
  · by_cases h2 : i < 6
    · rw [if_pos ⟨h1, h2⟩, if_pos h1]
    · rw [if_neg (by omega), if_pos h1, h.2 i (by omega)]; simp
  · rw [if_neg (by omega), if_neg h1]
theorem woT_at (f : Nat → Nat) (r c k : Nat) (h : r ≤ k) : woT f r c (k + 1) k = min (f k) c ∧ woT f r c k k = f k ∧ ∀ i, i ≠ k → woT f r c (k + 1) i = woT f r c k i := by
  unfold woT
  refine ⟨by rw [if_pos (by omega)], by rw [if_neg (by omega)], fun i hi => ?_⟩
  by_cases h1 : r ≤ i ∧ i < k
  · rw [if_pos (by omega), if_pos h1]
  · rw [if_neg (by omega), if_neg h1]
theorem set_bar {g g' : Nat → Nat} {k v : Nat} (hk : k < 6) (h1 : g' k = v) (h2 : ∀ i, i ≠ k → g' i = g i) : (hC (barH g)).setIfInBounds k (.int .i64 (v : Int)) = hC (barH g') := by
  subst h1
  have e0 := h2 0; have e1 := h2 1; have e2 := h2 2; have e3 := h2 3; have e4 := h2 4; have e5 := h2 5
  rcases (show k = 0 ∨ k = 1 ∨ k = 2 ∨ k = 3 ∨ k = 4 ∨ k = 5 by omega) with rfl | rfl | rfl | rfl | rfl | rfl <;> simp_all
theorem results_hp {fn : Func} {t : Tmp} {X : World} {tmps : Array Value} {B : Nat} {h : Hp} (hr : fn.results = #[.cell t 60]) (k : Blk X B 60 (hC h)) (ht : tmps.getD t undef = .pointer (some ⟨B, 0, none⟩)) :
    (results fn tmps).run Try.prog X = .ok (hV h) X := by
  obtain ⟨c0, c1, c2, c3, c4, c5, c6⟩ := k.c7
  rw [Array.getD_eq_getD_getElem?] at ht
  simp [results, hr, go_sem, ht, c0, c1, c2, c3, c4, c5, c6]
theorem min_i (a b : Nat) : min (a : Int) (b : Int) = ((min a b : Nat) : Int) := by omega
set_option maxRecDepth 100000 in
set_option maxHeartbeats 4000000 in
theorem without_any (f : Nat → Nat) (r c : Nat) (w : World) (hf : IsB f) (hr : r < 6) (hc : c ≤ 7) :
    Calls Try.prog 63 #[hV (barH f), .int .i64 (r : Int), .int .i64 (c : Int)] w (Ret (hV (barH (woF f r c))) w) := by
  have k0 := (Blk.new w 60 (hC (barH f))).alloc (.cells (hC h0) 60)
  have k1 := Blk.new (w.alloc (.cells (hC (barH f)) 60)) 60 (hC h0)
  rw [World.size_alloc] at k1
  have B := b2 w (.cells (hC (barH f)) 60) (.cells (hC h0) 60)
  replace k0 := Lib.hid k0
  replace k1 := Lib.hid k1
  replace B := Lib.hid B
  have hst := Lib.hid (woT_start f r c)
  have hen := Lib.hid (woT_end (r := r) (c := c) hf)
  have hat := Lib.hid (woT_at f r c)
  have hf' := Lib.hid hf.1
  clear hf
  go_enter Try.func63, Try.ntmps63
  go_wp2
  go_loopw [7] (fun i wr => ∃ k : Nat, r ≤ k ∧ k ≤ 6 ∧ i = .int .i64 k ∧ Blk wr w.heap.size 60 (hC (barH (woT f r c k))) ∧ Blk wr (w.heap.size + 1) 60 (hC h0) ∧ Below w.heap.size w wr) (fun i _ => 6 - (intOf i).toNat)
  case atStart => exact ⟨r, Nat.le_refl _, by omega, rfl, by rw [hst.out]; exact k0.out, k1.out, B.out⟩
  case round =>
    clear k0 k1 B
    obtain ⟨k, hk1, hk2, rfl, h0', h1', B⟩ := hrel
    obtain ⟨c0, c1, c2, c3, c4, c5, c6⟩ := h0'.c7
    have hfr := h0'.fr
    replace B := Lib.hid B
    by_cases hlt : k < 6
    · obtain ⟨a1, a2, a3⟩ := hat.out k hk1
      have hset := Lib.hid (set_bar (g := woT f r c k) (g' := woT f r c (k + 1)) hlt a1 a3)
      have hbk := Lib.hid (h0'.setA (i := k) (.int .i64 ((min (f k) c : Nat) : Int)))
      have hle := hf'.out k
      have em := min_i (f k) c
      have h1h := Lib.hid (h1'.other (B' := w.heap.size) (i := k) (by omega) (.int .i64 ((min (f k) c : Nat) : Int)))
      obtain ⟨m, hm⟩ : ∃ m, Hid (min (f k) c = m) := ⟨_, Lib.hid rfl⟩
      have hm7 : m ≤ 7 := by rw [← hm.out]; omega
      rw [hm.out] at hset hbk em h1h
      have hg : woT f r c k k = f k := a2
      clear a1 a2 a3
      obtain ⟨g, hgg⟩ : ∃ g, Hid (woT f r c k = g) := ⟨_, Lib.hid rfl⟩
      rw [hgg.out] at c0 c1 c2 c3 c4 c5 c6 hg
      clear h0' h1'
      rcases (show k = 0 ∨ k = 1 ∨ k = 2 ∨ k = 3 ∨ k = 4 ∨ k = 5 by omega) with rfl | rfl | rfl | rfl | rfl | rfl
      · rw [← hg] at em hle
        clear hg
        go_wp2
        go_roundw
        case rel => exact ⟨1, by omega, by omega, by first | rfl | go_num, (by rw [← hset.out]; exact hbk.out), h1h.out, B.out.setCell (by simp) _⟩
        case measure => simp [intOf]
      · rw [← hg] at em hle
        clear hg
        go_wp2
        go_roundw
        case rel => exact ⟨2, by omega, by omega, by first | rfl | go_num, (by rw [← hset.out]; exact hbk.out), h1h.out, B.out.setCell (by simp) _⟩
        case measure => simp [intOf]
      · rw [← hg] at em hle
        clear hg
        go_wp2
        go_roundw
        case rel => exact ⟨3, by omega, by omega, by first | rfl | go_num, (by rw [← hset.out]; exact hbk.out), h1h.out, B.out.setCell (by simp) _⟩
        case measure => simp [intOf]
      · rw [← hg] at em hle
        clear hg
        go_wp2
        go_roundw
        case rel => exact ⟨4, by omega, by omega, by first | rfl | go_num, (by rw [← hset.out]; exact hbk.out), h1h.out, B.out.setCell (by simp) _⟩
        case measure => simp [intOf]
      · rw [← hg] at em hle
        clear hg
        go_wp2
        go_roundw
        case rel => exact ⟨5, by omega, by omega, by first | rfl | go_num, (by rw [← hset.out]; exact hbk.out), h1h.out, B.out.setCell (by simp) _⟩
        case measure => simp [intOf]
      · rw [← hg] at em hle
        clear hg
        go_wp2
        go_roundw
        case rel => exact ⟨6, by omega, by omega, by first | rfl | go_num, (by rw [← hset.out]; exact hbk.out), h1h.out, B.out.setCell (by simp) _⟩
        case measure => simp [intOf]
    · obtain rfl : k = 6 := by omega
      rw [hen.out] at c0 c1 c2 c3 c4 c5 c6
      obtain ⟨d0, d1, d2, d3, d4, d5, d6⟩ := h1'.c7
      have hfr1 := h1'.fr
      have hfin := blk_set7 h1' (barH (woF f r c))
      have hb := Lib.hid (below_grown (grown_put7 wr (w.heap.size + 1) (barH (woF f r c))) (n := w.heap.size) (by have := B.out.size; omega) (by omega))
      clear h0' h1'
      generalize woF f r c = g at *
      have hfin := Lib.hid hfin
      go_wp2
      exact bodyPost_ret (results_hp rfl hfin.out rfl) rfl (Ret.mk rfl (B.out.trans hb.out))
/-- The bars behind the bites in the rows below k; and in row k, below column c. -/
def biT (f : Nat → Nat) (k : Nat) : List (Nat → Nat) := (List.range k).flatMap fun r => (List.range (f r)).map fun c => woF f r c
def biU (f : Nat → Nat) (k c : Nat) : List (Nat → Nat) := biT f k ++ (List.range c).map fun c => woF f k c
theorem biT_succ (f : Nat → Nat) (k : Nat) : biT f (k + 1) = biU f k (f k) := by unfold biT biU biT; rw [List.range_succ, List.flatMap_append]; simp
theorem biU_succ (f : Nat → Nat) (k c : Nat) : biU f k (c + 1) = biU f k c ++ [woF f k c] := by unfold biU; rw [List.range_succ, List.map_append, List.append_assoc]; rfl
theorem biU_len (f : Nat → Nat) (k c : Nat) : (biU f k c).length = (biT f k).length + c := by simp [biU]
theorem biT_len {f : Nat → Nat} (h : IsB f) : ∀ k, (biT f k).length ≤ 7 * k
  | 0 => by simp [biT]
  | k + 1 => by have := biT_len h k; have := h.1 k; rw [biT_succ, biU_len]; omega
def bH (l : List (Nat → Nat)) : List Hp := l.map barH
@[go_sem] theorem idx6_0 (a b c d e f : Int) (w : World) : (Instr.index 58 (.agg #[.int .i64 a, .int .i64 b, .int .i64 c, .int .i64 d, .int .i64 e, .int .i64 f]) (.int .i64 0)).run Try.prog w = .ok (.int .i64 a) w := by kernel_rfl
@[go_sem] theorem idx6_1 (a b c d e f : Int) (w : World) : (Instr.index 58 (.agg #[.int .i64 a, .int .i64 b, .int .i64 c, .int .i64 d, .int .i64 e, .int .i64 f]) (.int .i64 1)).run Try.prog w = .ok (.int .i64 b) w := by kernel_rfl
@[go_sem] theorem idx6_2 (a b c d e f : Int) (w : World) : (Instr.index 58 (.agg #[.int .i64 a, .int .i64 b, .int .i64 c, .int .i64 d, .int .i64 e, .int .i64 f]) (.int .i64 2)).run Try.prog w = .ok (.int .i64 c) w := by kernel_rfl
@[go_sem] theorem idx6_3 (a b c d e f : Int) (w : World) : (Instr.index 58 (.agg #[.int .i64 a, .int .i64 b, .int .i64 c, .int .i64 d, .int .i64 e, .int .i64 f]) (.int .i64 3)).run Try.prog w = .ok (.int .i64 d) w := by kernel_rfl
@[go_sem] theorem idx6_4 (a b c d e f : Int) (w : World) : (Instr.index 58 (.agg #[.int .i64 a, .int .i64 b, .int .i64 c, .int .i64 d, .int .i64 e, .int .i64 f]) (.int .i64 4)).run Try.prog w = .ok (.int .i64 e) w := by kernel_rfl
@[go_sem] theorem idx6_5 (a b c d e f : Int) (w : World) : (Instr.index 58 (.agg #[.int .i64 a, .int .i64 b, .int .i64 c, .int .i64 d, .int .i64 e, .int .i64 f]) (.int .i64 5)).run Try.prog w = .ok (.int .i64 f) w := by kernel_rfl
set_option maxRecDepth 100000 in
set_option maxHeartbeats 8000000 in
theorem bites_any (f : Nat → Nat) (w : World) (hf : IsB f) : Calls Try.prog 78 #[hV (barH f)] w (NewH (bH (biF f)) w) := by
  obtain ⟨i0, hi, hz0, hz1, hz2⟩ := info_parts infoHp
  have G0 := Lib.hid hi
  have G1 := Lib.hid hz0
  have G2 := Lib.hid hz1
  have G3 := Lib.hid hz2
  clear hi hz0 hz1 hz2
  have hbx := Blk.new w 60 (hC (barH f))
  obtain ⟨x0, x1, x2, x3, x4, x5, x6⟩ := hbx.c7
  have B := Lib.hid (b1 w (.cells (hC (barH f)) 60))
  have hf7 := Lib.hid hf.1
  replace hf := Lib.hid hf
  replace hbx := Lib.hid hbx
  go_enter Try.func78, Try.ntmps78
  go_wp2
  clear x0 x1 x2 x3 x4 x5 x6
  go_loopw [3, 4, 5, 6, 9] (fun v _ _ _ i wr => ∃ k : Nat, k ≤ 6 ∧ i = .int .i64 k ∧ wr.ownsRow (w.heap.size + 1) 60 7 v (bH (biT f k)).length (hL (bH (biT f k))) ∧ Blk wr w.heap.size 60 (hC (barH f)) ∧ Below w.heap.size w wr) (fun _ _ _ _ i _ => 6 - (intOf i).toNat)
  case atStart => exact ⟨0, by omega, rfl, World.ownsRow_nil _ _ _ _, hbx.out, B.out⟩
  case round =>
    clear hbx B
    obtain ⟨k, hk, rfl, hown, h0', B⟩ := hrel
    by_cases hlt : k < 6
    · rcases (show k = 0 ∨ k = 1 ∨ k = 2 ∨ k = 3 ∨ k = 4 ∨ k = 5 by omega) with rfl | rfl | rfl | rfl | rfl | rfl
      · have hfk : f 0 ≤ 7 := hf7.out 0
        have hst := Lib.hid (biT_succ f 0)
        have ej : ((0 : Nat) : Int) = 0 := rfl
        have hW : Hid (∀ c : Nat, c ≤ 7 → ∀ W, Calls Try.prog 63 #[hV (barH f), .int .i64 0, .int .i64 (c : Int)] W (Ret (hV (barH (woF f 0 c))) W)) := Lib.hid (fun c (hc : c ≤ 7) W => without_any f 0 c W hf.out (by omega) hc)
        rw [ej]
        clear ej
        have hu := Lib.hid (biU_succ f 0)
        have hul := Lib.hid (biU_len f 0)
        have hu0 : Hid (biU f 0 0 = biT f 0) := Lib.hid (by simp [biU])
        have hu1 : Hid (biT f (0 + 1) = biU f 0 (f 0)) := Lib.hid hst.out
        have htl : (biT f 0).length ≤ 42 := by have := biT_len hf.out 0; omega
        rw [← hu0.out] at hown
        clear hst
        replace hown := Lib.hid hown
        replace h0' := Lib.hid h0'
        go_wp2
        generalize wr = w1 at *
        go_loopw [3, 6, 14] (fun v _ ci wr => ∃ c : Nat, c ≤ f 0 ∧ ci = .int .i64 c ∧ wr.ownsRow (w.heap.size + 1) 60 7 v (bH (biU f 0 c)).length (hL (bH (biU f 0 c))) ∧ Blk wr w.heap.size 60 (hC (barH f)) ∧ Below w.heap.size w wr) (fun _ _ ci _ => f 0 - (intOf ci).toNat)
        case atStart => exact ⟨0, by omega, rfl, hown.out, h0'.out, B⟩
        case round =>
          clear hown h0' B
          obtain ⟨c, hc, rfl, hown, h0', B⟩ := hrel
          obtain ⟨a, cap, rfl, hcap, hH⟩ := own_heaps hown rfl
          by_cases hlt : c < f 0
          · have hlt' : (c : Int) < (f 0 : Int) := by omega
            obtain ⟨c0, c1, c2, c3, c4, c5, c6⟩ := h0'.c7
            have hWc := Lib.hid (hW.out c (by omega))
            have huc := Lib.hid (hu.out c)
            have hlc := hul.out c
            replace hH := Lib.hid hH
            have hs1 : w.heap.size + 1 ≤ wr.heap.size := by have := h0'.lt; omega
            have hB' := Lib.hid h0'
            clear h0'
            generalize hn : (bH (biU f 0 c)).length = n at *
            have hn2 : n ≤ 60 := by rw [← hn, bH, List.length_map, hlc]; omega
            replace hn := Lib.hid hn
            replace hlc := Lib.hid hlc
            have hown' := Lib.hid hown
            clear hown
            obtain ⟨x, hx⟩ : ∃ x, Hid (barH (woF f 0 c) = x) := ⟨_, Lib.hid rfl⟩
            rw [hx.out] at hWc
            go_wp2_with (first
              | (go_at_call 63; refine (hWc.out _).mono ?_; rintro e w2 ⟨rfl, hb2⟩; have hown2 := owns_next hown'.out hb2; have hB2 := Lib.hid (hB'.out.ext hb2); have B2 := Lib.hid (nextB B hb2); have hs2 : w.heap.size + 1 ≤ w2.heap.size := (by have := hb2.size; omega); have hc7 := Lib.hid (cell7_new w2 x 60))
              | (at_builtin; refine wpList_append_own _ rfl _ _ 79 rfl (w.heap.size + 1) 60 i0 (hV Go.Proofs.Ytdafpjapepfniaa.h0) 7 56 Try.underlying79 G0.out G1.out G2.out G3.out rfl (by decide) _ _ _ rfl (hown2.alloc _) ⟨_, 0, none⟩ 1 1 (hC x).toList rfl rfl hc7.out (by simp [Value.oneCell']) (by unfold maxLen; omega) (by omega) (by simp; omega) ?_; intro v' w3 hown3 hgrow _))
            have B3 := (B2.out.alloc (by omega) _).grown hgrow (by simp; omega) (fun q hq => by have := (hown2.lt q hq).1; omega)
            have hB3 := blk_grown (hB2.out.alloc _) hgrow (fun e => by have := (hown2.lt _ e.symm).1; omega)
            go_roundw
            case rel => exact ⟨c + 1, by omega, by go_num, by rw [huc.out, bH, List.map_append, List.length_append]; show World.ownsRow _ _ _ _ _ ((bH _).length + 1) (hL (bH _ ++ [_])); rw [hn.out, hL_snoc, hx.out]; exact hown3, hB3, B3⟩
            case measure => simp [intOf]; omega
          · obtain rfl : c = f 0 := by omega
            have hown' := Lib.hid hown
            have hB' := Lib.hid h0'
            clear hown h0' hH
            go_wp2
            go_roundw
            case rel => exact ⟨1, by omega, by first | rfl | go_num, by rw [hu1.out]; exact hown'.out, hB'.out, B⟩
            case measure => simp [intOf]
      · have hfk : f 1 ≤ 7 := hf7.out 1
        have hst := Lib.hid (biT_succ f 1)
        have ej : ((1 : Nat) : Int) = 1 := rfl
        have hW : Hid (∀ c : Nat, c ≤ 7 → ∀ W, Calls Try.prog 63 #[hV (barH f), .int .i64 1, .int .i64 (c : Int)] W (Ret (hV (barH (woF f 1 c))) W)) := Lib.hid (fun c (hc : c ≤ 7) W => without_any f 1 c W hf.out (by omega) hc)
        rw [ej]
        clear ej
        have hu := Lib.hid (biU_succ f 1)
        have hul := Lib.hid (biU_len f 1)
        have hu0 : Hid (biU f 1 0 = biT f 1) := Lib.hid (by simp [biU])
        have hu1 : Hid (biT f (1 + 1) = biU f 1 (f 1)) := Lib.hid hst.out
        have htl : (biT f 1).length ≤ 42 := by have := biT_len hf.out 1; omega
        rw [← hu0.out] at hown
        clear hst
        replace hown := Lib.hid hown
        replace h0' := Lib.hid h0'
        go_wp2
        generalize wr = w1 at *
        go_loopw [3, 6, 14] (fun v _ ci wr => ∃ c : Nat, c ≤ f 1 ∧ ci = .int .i64 c ∧ wr.ownsRow (w.heap.size + 1) 60 7 v (bH (biU f 1 c)).length (hL (bH (biU f 1 c))) ∧ Blk wr w.heap.size 60 (hC (barH f)) ∧ Below w.heap.size w wr) (fun _ _ ci _ => f 1 - (intOf ci).toNat)
        case atStart => exact ⟨0, by omega, rfl, hown.out, h0'.out, B⟩
        case round =>
          clear hown h0' B
          obtain ⟨c, hc, rfl, hown, h0', B⟩ := hrel
          obtain ⟨a, cap, rfl, hcap, hH⟩ := own_heaps hown rfl
          by_cases hlt : c < f 1
          · have hlt' : (c : Int) < (f 1 : Int) := by omega
            obtain ⟨c0, c1, c2, c3, c4, c5, c6⟩ := h0'.c7
            have hWc := Lib.hid (hW.out c (by omega))
            have huc := Lib.hid (hu.out c)
            have hlc := hul.out c
            replace hH := Lib.hid hH
            have hs1 : w.heap.size + 1 ≤ wr.heap.size := by have := h0'.lt; omega
            have hB' := Lib.hid h0'
            clear h0'
            generalize hn : (bH (biU f 1 c)).length = n at *
            have hn2 : n ≤ 60 := by rw [← hn, bH, List.length_map, hlc]; omega
            replace hn := Lib.hid hn
            replace hlc := Lib.hid hlc
            have hown' := Lib.hid hown
            clear hown
            obtain ⟨x, hx⟩ : ∃ x, Hid (barH (woF f 1 c) = x) := ⟨_, Lib.hid rfl⟩
            rw [hx.out] at hWc
            go_wp2_with (first
              | (go_at_call 63; refine (hWc.out _).mono ?_; rintro e w2 ⟨rfl, hb2⟩; have hown2 := owns_next hown'.out hb2; have hB2 := Lib.hid (hB'.out.ext hb2); have B2 := Lib.hid (nextB B hb2); have hs2 : w.heap.size + 1 ≤ w2.heap.size := (by have := hb2.size; omega); have hc7 := Lib.hid (cell7_new w2 x 60))
              | (at_builtin; refine wpList_append_own _ rfl _ _ 79 rfl (w.heap.size + 1) 60 i0 (hV Go.Proofs.Ytdafpjapepfniaa.h0) 7 56 Try.underlying79 G0.out G1.out G2.out G3.out rfl (by decide) _ _ _ rfl (hown2.alloc _) ⟨_, 0, none⟩ 1 1 (hC x).toList rfl rfl hc7.out (by simp [Value.oneCell']) (by unfold maxLen; omega) (by omega) (by simp; omega) ?_; intro v' w3 hown3 hgrow _))
            have B3 := (B2.out.alloc (by omega) _).grown hgrow (by simp; omega) (fun q hq => by have := (hown2.lt q hq).1; omega)
            have hB3 := blk_grown (hB2.out.alloc _) hgrow (fun e => by have := (hown2.lt _ e.symm).1; omega)
            go_roundw
            case rel => exact ⟨c + 1, by omega, by go_num, by rw [huc.out, bH, List.map_append, List.length_append]; show World.ownsRow _ _ _ _ _ ((bH _).length + 1) (hL (bH _ ++ [_])); rw [hn.out, hL_snoc, hx.out]; exact hown3, hB3, B3⟩
            case measure => simp [intOf]; omega
          · obtain rfl : c = f 1 := by omega
            have hown' := Lib.hid hown
            have hB' := Lib.hid h0'
            clear hown h0' hH
            go_wp2
            go_roundw
            case rel => exact ⟨2, by omega, by first | rfl | go_num, by rw [hu1.out]; exact hown'.out, hB'.out, B⟩
            case measure => simp [intOf]
      · have hfk : f 2 ≤ 7 := hf7.out 2
        have hst := Lib.hid (biT_succ f 2)
        have ej : ((2 : Nat) : Int) = 2 := rfl
        have hW : Hid (∀ c : Nat, c ≤ 7 → ∀ W, Calls Try.prog 63 #[hV (barH f), .int .i64 2, .int .i64 (c : Int)] W (Ret (hV (barH (woF f 2 c))) W)) := Lib.hid (fun c (hc : c ≤ 7) W => without_any f 2 c W hf.out (by omega) hc)
        rw [ej]
        clear ej
        have hu := Lib.hid (biU_succ f 2)
        have hul := Lib.hid (biU_len f 2)
        have hu0 : Hid (biU f 2 0 = biT f 2) := Lib.hid (by simp [biU])
        have hu1 : Hid (biT f (2 + 1) = biU f 2 (f 2)) := Lib.hid hst.out
        have htl : (biT f 2).length ≤ 42 := by have := biT_len hf.out 2; omega
        rw [← hu0.out] at hown
        clear hst
        replace hown := Lib.hid hown
        replace h0' := Lib.hid h0'
        go_wp2
        generalize wr = w1 at *
        go_loopw [3, 6, 14] (fun v _ ci wr => ∃ c : Nat, c ≤ f 2 ∧ ci = .int .i64 c ∧ wr.ownsRow (w.heap.size + 1) 60 7 v (bH (biU f 2 c)).length (hL (bH (biU f 2 c))) ∧ Blk wr w.heap.size 60 (hC (barH f)) ∧ Below w.heap.size w wr) (fun _ _ ci _ => f 2 - (intOf ci).toNat)
        case atStart => exact ⟨0, by omega, rfl, hown.out, h0'.out, B⟩
        case round =>
          clear hown h0' B
          obtain ⟨c, hc, rfl, hown, h0', B⟩ := hrel
          obtain ⟨a, cap, rfl, hcap, hH⟩ := own_heaps hown rfl
          by_cases hlt : c < f 2
          · have hlt' : (c : Int) < (f 2 : Int) := by omega
            obtain ⟨c0, c1, c2, c3, c4, c5, c6⟩ := h0'.c7
            have hWc := Lib.hid (hW.out c (by omega))
            have huc := Lib.hid (hu.out c)
            have hlc := hul.out c
            replace hH := Lib.hid hH
            have hs1 : w.heap.size + 1 ≤ wr.heap.size := by have := h0'.lt; omega
            have hB' := Lib.hid h0'
            clear h0'
            generalize hn : (bH (biU f 2 c)).length = n at *
            have hn2 : n ≤ 60 := by rw [← hn, bH, List.length_map, hlc]; omega
            replace hn := Lib.hid hn
            replace hlc := Lib.hid hlc
            have hown' := Lib.hid hown
            clear hown
            obtain ⟨x, hx⟩ : ∃ x, Hid (barH (woF f 2 c) = x) := ⟨_, Lib.hid rfl⟩
            rw [hx.out] at hWc
            go_wp2_with (first
              | (go_at_call 63; refine (hWc.out _).mono ?_; rintro e w2 ⟨rfl, hb2⟩; have hown2 := owns_next hown'.out hb2; have hB2 := Lib.hid (hB'.out.ext hb2); have B2 := Lib.hid (nextB B hb2); have hs2 : w.heap.size + 1 ≤ w2.heap.size := (by have := hb2.size; omega); have hc7 := Lib.hid (cell7_new w2 x 60))
              | (at_builtin; refine wpList_append_own _ rfl _ _ 79 rfl (w.heap.size + 1) 60 i0 (hV Go.Proofs.Ytdafpjapepfniaa.h0) 7 56 Try.underlying79 G0.out G1.out G2.out G3.out rfl (by decide) _ _ _ rfl (hown2.alloc _) ⟨_, 0, none⟩ 1 1 (hC x).toList rfl rfl hc7.out (by simp [Value.oneCell']) (by unfold maxLen; omega) (by omega) (by simp; omega) ?_; intro v' w3 hown3 hgrow _))
            have B3 := (B2.out.alloc (by omega) _).grown hgrow (by simp; omega) (fun q hq => by have := (hown2.lt q hq).1; omega)
            have hB3 := blk_grown (hB2.out.alloc _) hgrow (fun e => by have := (hown2.lt _ e.symm).1; omega)
            go_roundw
            case rel => exact ⟨c + 1, by omega, by go_num, by rw [huc.out, bH, List.map_append, List.length_append]; show World.ownsRow _ _ _ _ _ ((bH _).length + 1) (hL (bH _ ++ [_])); rw [hn.out, hL_snoc, hx.out]; exact hown3, hB3, B3⟩
            case measure => simp [intOf]; omega
          · obtain rfl : c = f 2 := by omega
            have hown' := Lib.hid hown
            have hB' := Lib.hid h0'
            clear hown h0' hH
            go_wp2
            go_roundw
            case rel => exact ⟨3, by omega, by first | rfl | go_num, by rw [hu1.out]; exact hown'.out, hB'.out, B⟩
            case measure => simp [intOf]
      · have hfk : f 3 ≤ 7 := hf7.out 3
        have hst := Lib.hid (biT_succ f 3)
        have ej : ((3 : Nat) : Int) = 3 := rfl
        have hW : Hid (∀ c : Nat, c ≤ 7 → ∀ W, Calls Try.prog 63 #[hV (barH f), .int .i64 3, .int .i64 (c : Int)] W (Ret (hV (barH (woF f 3 c))) W)) := Lib.hid (fun c (hc : c ≤ 7) W => without_any f 3 c W hf.out (by omega) hc)
        rw [ej]
        clear ej
        have hu := Lib.hid (biU_succ f 3)
        have hul := Lib.hid (biU_len f 3)
        have hu0 : Hid (biU f 3 0 = biT f 3) := Lib.hid (by simp [biU])
        have hu1 : Hid (biT f (3 + 1) = biU f 3 (f 3)) := Lib.hid hst.out
        have htl : (biT f 3).length ≤ 42 := by have := biT_len hf.out 3; omega
        rw [← hu0.out] at hown
        clear hst
        replace hown := Lib.hid hown
        replace h0' := Lib.hid h0'
        go_wp2
        generalize wr = w1 at *
        go_loopw [3, 6, 14] (fun v _ ci wr => ∃ c : Nat, c ≤ f 3 ∧ ci = .int .i64 c ∧ wr.ownsRow (w.heap.size + 1) 60 7 v (bH (biU f 3 c)).length (hL (bH (biU f 3 c))) ∧ Blk wr w.heap.size 60 (hC (barH f)) ∧ Below w.heap.size w wr) (fun _ _ ci _ => f 3 - (intOf ci).toNat)
        case atStart => exact ⟨0, by omega, rfl, hown.out, h0'.out, B⟩
        case round =>
          clear hown h0' B
          obtain ⟨c, hc, rfl, hown, h0', B⟩ := hrel
          obtain ⟨a, cap, rfl, hcap, hH⟩ := own_heaps hown rfl
          by_cases hlt : c < f 3
          · have hlt' : (c : Int) < (f 3 : Int) := by omega
            obtain ⟨c0, c1, c2, c3, c4, c5, c6⟩ := h0'.c7
            have hWc := Lib.hid (hW.out c (by omega))
            have huc := Lib.hid (hu.out c)
            have hlc := hul.out c
            replace hH := Lib.hid hH
            have hs1 : w.heap.size + 1 ≤ wr.heap.size := by have := h0'.lt; omega
            have hB' := Lib.hid h0'
            clear h0'
            generalize hn : (bH (biU f 3 c)).length = n at *
            have hn2 : n ≤ 60 := by rw [← hn, bH, List.length_map, hlc]; omega
            replace hn := Lib.hid hn
            replace hlc := Lib.hid hlc
            have hown' := Lib.hid hown
            clear hown
            obtain ⟨x, hx⟩ : ∃ x, Hid (barH (woF f 3 c) = x) := ⟨_, Lib.hid rfl⟩
            rw [hx.out] at hWc
            go_wp2_with (first
              | (go_at_call 63; refine (hWc.out _).mono ?_; rintro e w2 ⟨rfl, hb2⟩; have hown2 := owns_next hown'.out hb2; have hB2 := Lib.hid (hB'.out.ext hb2); have B2 := Lib.hid (nextB B hb2); have hs2 : w.heap.size + 1 ≤ w2.heap.size := (by have := hb2.size; omega); have hc7 := Lib.hid (cell7_new w2 x 60))
              | (at_builtin; refine wpList_append_own _ rfl _ _ 79 rfl (w.heap.size + 1) 60 i0 (hV Go.Proofs.Ytdafpjapepfniaa.h0) 7 56 Try.underlying79 G0.out G1.out G2.out G3.out rfl (by decide) _ _ _ rfl (hown2.alloc _) ⟨_, 0, none⟩ 1 1 (hC x).toList rfl rfl hc7.out (by simp [Value.oneCell']) (by unfold maxLen; omega) (by omega) (by simp; omega) ?_; intro v' w3 hown3 hgrow _))
            have B3 := (B2.out.alloc (by omega) _).grown hgrow (by simp; omega) (fun q hq => by have := (hown2.lt q hq).1; omega)
            have hB3 := blk_grown (hB2.out.alloc _) hgrow (fun e => by have := (hown2.lt _ e.symm).1; omega)
            go_roundw
            case rel => exact ⟨c + 1, by omega, by go_num, by rw [huc.out, bH, List.map_append, List.length_append]; show World.ownsRow _ _ _ _ _ ((bH _).length + 1) (hL (bH _ ++ [_])); rw [hn.out, hL_snoc, hx.out]; exact hown3, hB3, B3⟩
            case measure => simp [intOf]; omega
          · obtain rfl : c = f 3 := by omega
            have hown' := Lib.hid hown
            have hB' := Lib.hid h0'
            clear hown h0' hH
            go_wp2
            go_roundw
            case rel => exact ⟨4, by omega, by first | rfl | go_num, by rw [hu1.out]; exact hown'.out, hB'.out, B⟩
            case measure => simp [intOf]
      · have hfk : f 4 ≤ 7 := hf7.out 4
        have hst := Lib.hid (biT_succ f 4)
        have ej : ((4 : Nat) : Int) = 4 := rfl
        have hW : Hid (∀ c : Nat, c ≤ 7 → ∀ W, Calls Try.prog 63 #[hV (barH f), .int .i64 4, .int .i64 (c : Int)] W (Ret (hV (barH (woF f 4 c))) W)) := Lib.hid (fun c (hc : c ≤ 7) W => without_any f 4 c W hf.out (by omega) hc)
        rw [ej]
        clear ej
        have hu := Lib.hid (biU_succ f 4)
        have hul := Lib.hid (biU_len f 4)
        have hu0 : Hid (biU f 4 0 = biT f 4) := Lib.hid (by simp [biU])
        have hu1 : Hid (biT f (4 + 1) = biU f 4 (f 4)) := Lib.hid hst.out
        have htl : (biT f 4).length ≤ 42 := by have := biT_len hf.out 4; omega
        rw [← hu0.out] at hown
        clear hst
        replace hown := Lib.hid hown
        replace h0' := Lib.hid h0'
        go_wp2
        generalize wr = w1 at *
        go_loopw [3, 6, 14] (fun v _ ci wr => ∃ c : Nat, c ≤ f 4 ∧ ci = .int .i64 c ∧ wr.ownsRow (w.heap.size + 1) 60 7 v (bH (biU f 4 c)).length (hL (bH (biU f 4 c))) ∧ Blk wr w.heap.size 60 (hC (barH f)) ∧ Below w.heap.size w wr) (fun _ _ ci _ => f 4 - (intOf ci).toNat)
        case atStart => exact ⟨0, by omega, rfl, hown.out, h0'.out, B⟩
        case round =>
          clear hown h0' B
          obtain ⟨c, hc, rfl, hown, h0', B⟩ := hrel
          obtain ⟨a, cap, rfl, hcap, hH⟩ := own_heaps hown rfl
          by_cases hlt : c < f 4
          · have hlt' : (c : Int) < (f 4 : Int) := by omega
            obtain ⟨c0, c1, c2, c3, c4, c5, c6⟩ := h0'.c7
            have hWc := Lib.hid (hW.out c (by omega))
            have huc := Lib.hid (hu.out c)
            have hlc := hul.out c
            replace hH := Lib.hid hH
            have hs1 : w.heap.size + 1 ≤ wr.heap.size := by have := h0'.lt; omega
            have hB' := Lib.hid h0'
            clear h0'
            generalize hn : (bH (biU f 4 c)).length = n at *
            have hn2 : n ≤ 60 := by rw [← hn, bH, List.length_map, hlc]; omega
            replace hn := Lib.hid hn
            replace hlc := Lib.hid hlc
            have hown' := Lib.hid hown
            clear hown
            obtain ⟨x, hx⟩ : ∃ x, Hid (barH (woF f 4 c) = x) := ⟨_, Lib.hid rfl⟩
            rw [hx.out] at hWc
            go_wp2_with (first
              | (go_at_call 63; refine (hWc.out _).mono ?_; rintro e w2 ⟨rfl, hb2⟩; have hown2 := owns_next hown'.out hb2; have hB2 := Lib.hid (hB'.out.ext hb2); have B2 := Lib.hid (nextB B hb2); have hs2 : w.heap.size + 1 ≤ w2.heap.size := (by have := hb2.size; omega); have hc7 := Lib.hid (cell7_new w2 x 60))
              | (at_builtin; refine wpList_append_own _ rfl _ _ 79 rfl (w.heap.size + 1) 60 i0 (hV Go.Proofs.Ytdafpjapepfniaa.h0) 7 56 Try.underlying79 G0.out G1.out G2.out G3.out rfl (by decide) _ _ _ rfl (hown2.alloc _) ⟨_, 0, none⟩ 1 1 (hC x).toList rfl rfl hc7.out (by simp [Value.oneCell']) (by unfold maxLen; omega) (by omega) (by simp; omega) ?_; intro v' w3 hown3 hgrow _))
            have B3 := (B2.out.alloc (by omega) _).grown hgrow (by simp; omega) (fun q hq => by have := (hown2.lt q hq).1; omega)
            have hB3 := blk_grown (hB2.out.alloc _) hgrow (fun e => by have := (hown2.lt _ e.symm).1; omega)
            go_roundw
            case rel => exact ⟨c + 1, by omega, by go_num, by rw [huc.out, bH, List.map_append, List.length_append]; show World.ownsRow _ _ _ _ _ ((bH _).length + 1) (hL (bH _ ++ [_])); rw [hn.out, hL_snoc, hx.out]; exact hown3, hB3, B3⟩
            case measure => simp [intOf]; omega
          · obtain rfl : c = f 4 := by omega
            have hown' := Lib.hid hown
            have hB' := Lib.hid h0'
            clear hown h0' hH
            go_wp2
            go_roundw
            case rel => exact ⟨5, by omega, by first | rfl | go_num, by rw [hu1.out]; exact hown'.out, hB'.out, B⟩
            case measure => simp [intOf]
      · have hfk : f 5 ≤ 7 := hf7.out 5
        have hst := Lib.hid (biT_succ f 5)
        have ej : ((5 : Nat) : Int) = 5 := rfl
        have hW : Hid (∀ c : Nat, c ≤ 7 → ∀ W, Calls Try.prog 63 #[hV (barH f), .int .i64 5, .int .i64 (c : Int)] W (Ret (hV (barH (woF f 5 c))) W)) := Lib.hid (fun c (hc : c ≤ 7) W => without_any f 5 c W hf.out (by omega) hc)
        rw [ej]
        clear ej
        have hu := Lib.hid (biU_succ f 5)
        have hul := Lib.hid (biU_len f 5)
        have hu0 : Hid (biU f 5 0 = biT f 5) := Lib.hid (by simp [biU])
        have hu1 : Hid (biT f (5 + 1) = biU f 5 (f 5)) := Lib.hid hst.out
        have htl : (biT f 5).length ≤ 42 := by have := biT_len hf.out 5; omega
        rw [← hu0.out] at hown
        clear hst
        replace hown := Lib.hid hown
        replace h0' := Lib.hid h0'
        go_wp2
        generalize wr = w1 at *
        go_loopw [3, 6, 14] (fun v _ ci wr => ∃ c : Nat, c ≤ f 5 ∧ ci = .int .i64 c ∧ wr.ownsRow (w.heap.size + 1) 60 7 v (bH (biU f 5 c)).length (hL (bH (biU f 5 c))) ∧ Blk wr w.heap.size 60 (hC (barH f)) ∧ Below w.heap.size w wr) (fun _ _ ci _ => f 5 - (intOf ci).toNat)
        case atStart => exact ⟨0, by omega, rfl, hown.out, h0'.out, B⟩
        case round =>
          clear hown h0' B
          obtain ⟨c, hc, rfl, hown, h0', B⟩ := hrel
          obtain ⟨a, cap, rfl, hcap, hH⟩ := own_heaps hown rfl
          by_cases hlt : c < f 5
          · have hlt' : (c : Int) < (f 5 : Int) := by omega
            obtain ⟨c0, c1, c2, c3, c4, c5, c6⟩ := h0'.c7
            have hWc := Lib.hid (hW.out c (by omega))
            have huc := Lib.hid (hu.out c)
            have hlc := hul.out c
            replace hH := Lib.hid hH
            have hs1 : w.heap.size + 1 ≤ wr.heap.size := by have := h0'.lt; omega
            have hB' := Lib.hid h0'
            clear h0'
            generalize hn : (bH (biU f 5 c)).length = n at *
            have hn2 : n ≤ 60 := by rw [← hn, bH, List.length_map, hlc]; omega
            replace hn := Lib.hid hn
            replace hlc := Lib.hid hlc
            have hown' := Lib.hid hown
            clear hown
            obtain ⟨x, hx⟩ : ∃ x, Hid (barH (woF f 5 c) = x) := ⟨_, Lib.hid rfl⟩
            rw [hx.out] at hWc
            go_wp2_with (first
              | (go_at_call 63; refine (hWc.out _).mono ?_; rintro e w2 ⟨rfl, hb2⟩; have hown2 := owns_next hown'.out hb2; have hB2 := Lib.hid (hB'.out.ext hb2); have B2 := Lib.hid (nextB B hb2); have hs2 : w.heap.size + 1 ≤ w2.heap.size := (by have := hb2.size; omega); have hc7 := Lib.hid (cell7_new w2 x 60))
              | (at_builtin; refine wpList_append_own _ rfl _ _ 79 rfl (w.heap.size + 1) 60 i0 (hV Go.Proofs.Ytdafpjapepfniaa.h0) 7 56 Try.underlying79 G0.out G1.out G2.out G3.out rfl (by decide) _ _ _ rfl (hown2.alloc _) ⟨_, 0, none⟩ 1 1 (hC x).toList rfl rfl hc7.out (by simp [Value.oneCell']) (by unfold maxLen; omega) (by omega) (by simp; omega) ?_; intro v' w3 hown3 hgrow _))
            have B3 := (B2.out.alloc (by omega) _).grown hgrow (by simp; omega) (fun q hq => by have := (hown2.lt q hq).1; omega)
            have hB3 := blk_grown (hB2.out.alloc _) hgrow (fun e => by have := (hown2.lt _ e.symm).1; omega)
            go_roundw
            case rel => exact ⟨c + 1, by omega, by go_num, by rw [huc.out, bH, List.map_append, List.length_append]; show World.ownsRow _ _ _ _ _ ((bH _).length + 1) (hL (bH _ ++ [_])); rw [hn.out, hL_snoc, hx.out]; exact hown3, hB3, B3⟩
            case measure => simp [intOf]; omega
          · obtain rfl : c = f 5 := by omega
            have hown' := Lib.hid hown
            have hB' := Lib.hid h0'
            clear hown h0' hH
            go_wp2
            go_roundw
            case rel => exact ⟨6, by omega, by first | rfl | go_num, by rw [hu1.out]; exact hown'.out, hB'.out, B⟩
            case measure => simp [intOf]
    · obtain rfl : k = 6 := by omega
      obtain ⟨a, cap, rfl, hcap, hH⟩ := own_heaps hown rfl
      replace hH := Lib.hid hH
      clear hown h0'
      go_wp2
      go_ret
      exact ⟨a, cap, rfl, hcap, (fun h => let ⟨g, h1, h2, h3⟩ := hH.out h; ⟨g, h1, by omega, h3⟩), B⟩
end Go.Proofs.Ytdafpjapepfniaa
