/- Layer 2: the other line through two triangles, by the program. -/
import Derived.Test.YtflbaadfbjpakaaCf
namespace Go.Proofs.Ytflbaadfbjpakaa
open Go Go.RowKit

/-- Is c joined to both ends? -/
def tipB (n : Nat) (L : List (Int × Int)) (q : Int × Int) (c : Nat) : Bool := decide (NearP n L c q.1) && decide (NearP n L c q.2)
def tipsT (n : Nat) (L : List (Int × Int)) (q : Int × Int) (t : Nat) : List Nat := (List.range t).filter (tipB n L q)
/-- The corners that are joined to both ends. -/
def tipsL (n : Nat) (L : List (Int × Int)) (q : Int × Int) : List Nat := tipsT n L q n
theorem tipsT_succ (n : Nat) (L : List (Int × Int)) (q : Int × Int) (t : Nat) : tipsT n L q (t + 1) = tipsT n L q t ++ if tipB n L q t = true then [t] else [] := by
  unfold tipsT
  rw [List.range_succ, List.filter_append]
  congr 1
  cases h : tipB n L q t <;> simp [h]
theorem tipsT_len (n : Nat) (L : List (Int × Int)) (q : Int × Int) (t : Nat) : (tipsT n L q t).length ≤ t := by
  unfold tipsT
  exact Nat.le_trans (List.length_filter_le _ _) (by simp)
/-- The line that takes the place of q. -/
def otherL (n : Nat) (L : List (Int × Int)) (q : Int × Int) : Int × Int := (min (nth (lC (tipsL n L q)) 0) (nth (lC (tipsL n L q)) 1), max (nth (lC (tipsL n L q)) 0) (nth (lC (tipsL n L q)) 1))
set_option maxRecDepth 100000 in
set_option maxHeartbeats 4000000 in
theorem across_any (n : Nat) (a : Option Addr) (m cp : Nat) (L : List (Int × Int)) (q0 q1 : Int) (w : World) (h : Prs w a L) (hl : L.length = m) (hm : m ≤ 4611686018427387904) (h1 : 1 ≤ n) (h2 : n ≤ 12)
    (k0 : 0 ≤ q0) (k1 : q0 ≤ 1000) (k2 : 0 ≤ q1) (k3 : q1 ≤ 1000) (htip : 2 ≤ (tipsL n L (q0, q1)).length) :
    Calls Try.prog 68 #[.agg #[.int .i64 n, .slice a m cp], .agg #[.int .i64 q0, .int .i64 q1]] w (Ret (.agg #[.int .i64 (otherL n L (q0, q1)).1, .int .i64 (otherL n L (q0, q1)).2]) w) := by
  obtain ⟨i0, hi0, hz0, hz1, hz2⟩ := info_parts infoInt
  have G0 := Lib.hid hi0
  have G1 := Lib.hid hz0
  have G2 := Lib.hid hz1
  have G3 := Lib.hid hz2
  clear hi0 hz0 hz1 hz2
  have J0 := Lib.hid (fun (x : Nat) W (hW : Below w.heap.size w W) (hx : x ≤ 12) => joined_any a m cp L n x q0 W (h.next hW) hl hm (by omega) (by omega) (by omega) k0 k1)
  have J1 := Lib.hid (fun (x : Nat) W (hW : Below w.heap.size w W) (hx : x ≤ 12) => joined_any a m cp L n x q1 W (h.next hW) hl hm (by omega) (by omega) (by omega) k2 k3)
  replace htip := Lib.hid htip
  clear hl h
  go_enter Try.func68, Try.ntmps68
  go_wp2
  have X0 := (Blk.new w 66 #[.int .i64 n, .slice a m cp]).alloc (.cells #[.int .i64 q0, .int .i64 q1] 60)
  have Y0 := Blk.new (w.alloc (.cells #[.int .i64 n, .slice a m cp] 66)) 60 #[.int .i64 q0, .int .i64 q1]
  have Z0 := Blk.new ((w.alloc (.cells #[.int .i64 n, .slice a m cp] 66)).alloc (.cells #[.int .i64 q0, .int .i64 q1] 60)) 60 #[.int .i64 0, .int .i64 0]
  have B0 := b3 w (.cells #[.int .i64 n, .slice a m cp] 66) (.cells #[.int .i64 q0, .int .i64 q1] 60) (.cells #[.int .i64 0, .int .i64 0] 60)
  replace X0 := X0.alloc (.cells #[.int .i64 0, .int .i64 0] 60)
  replace Y0 := Y0.alloc (.cells #[.int .i64 0, .int .i64 0] 60)
  simp only [World.size_alloc] at Y0 Z0
  generalize (((w.alloc (.cells #[.int .i64 n, .slice a m cp] 66)).alloc (.cells #[.int .i64 q0, .int .i64 q1] 60)).alloc (.cells #[.int .i64 0, .int .i64 0] 60)) = W0 at *
  go_loopw [5, 9] (fun v i wr => ∃ t : Nat, t ≤ n ∧ i = .int .i64 t ∧ wr.ownsRow (w.heap.size + 3) 3 1 v (tipsT n L (q0, q1) t).length (lI (lC (tipsT n L (q0, q1) t))) ∧ Blk wr w.heap.size 66 #[.int .i64 n, .slice a m cp] ∧ Blk wr (w.heap.size + 1) 60 #[.int .i64 q0, .int .i64 q1] ∧ Blk wr (w.heap.size + 1 + 1) 60 #[.int .i64 0, .int .i64 0] ∧ Below w.heap.size w wr) (fun _ i _ => n - (intOf i).toNat)
  case atStart => exact ⟨0, by omega, rfl, World.ownsRow_nil _ _ _ _, X0, Y0, Z0, B0⟩
  case round =>
    clear X0 Y0 Z0 B0
    obtain ⟨t, ht, rfl, hown, X0, Y0, Z0, B0⟩ := hrel
    by_cases hlt : t < n
    · have hi1 : (t : Int) < (n : Int) := by omega
      have hs := Lib.hid (tipsT_succ n L (q0, q1) t)
      have hlen := tipsT_len n L (q0, q1) t
      have J0t := J0.out t
      have J1t := J1.out t
      have x0 := X0.c 0 rfl
      have x1 := X0.c 1 rfl
      have y0 := Y0.c 0 rfl
      have y1 := Y0.c 1 rfl
      cases g1 : decide (NearP n L t q0)
      all_goals rw [g1] at J0t
      · clear J1t
        replace g1 := Lib.hid g1
        go_wp2_with (go_at_call 74; refine (J0t _ B0 (by omega)).mono ?_; rintro e w1 ⟨rfl, hb1⟩; clear x0 x1 y0 y1; replace hown := owns_next hown hb1; replace X0 := X0.ext hb1; replace Y0 := Y0.ext hb1; replace Z0 := Z0.ext hb1; replace B0 := nextB B0 hb1; have x0 := X0.c 0 rfl; have x1 := X0.c 1 rfl; have y0 := Y0.c 0 rfl; have y1 := Y0.c 1 rfl)
        clear x0 x1 y0 y1
        go_roundw
        case rel => exact ⟨t + 1, by omega, by go_num, by rw [hs.out, if_neg (by have := g1.out; simp [tipB, this]), List.append_nil]; exact hown, X0, Y0, Z0, B0⟩
        case measure => simp [intOf]; omega
      · cases g2 : decide (NearP n L t q1)
        all_goals rw [g2] at J1t
        · replace g1 := Lib.hid g1
          replace g2 := Lib.hid g2
          go_wp2_with (first
            | (go_at_call 74; (with_reducible refine (J0t _ B0 (by omega)).mono ?_); rintro e w1 ⟨rfl, hb1⟩; clear x0 x1 y0 y1; replace hown := owns_next hown hb1; replace X0 := X0.ext hb1; replace Y0 := Y0.ext hb1; replace Z0 := Z0.ext hb1; replace B0 := nextB B0 hb1; have x0 := X0.c 0 rfl; have x1 := X0.c 1 rfl; have y0 := Y0.c 0 rfl; have y1 := Y0.c 1 rfl)
            | (go_at_call 74; (with_reducible refine (J1t _ B0 (by omega)).mono ?_); rintro e w1 ⟨rfl, hb1⟩; clear x0 x1 y0 y1; replace hown := owns_next hown hb1; replace X0 := X0.ext hb1; replace Y0 := Y0.ext hb1; replace Z0 := Z0.ext hb1; replace B0 := nextB B0 hb1; have x0 := X0.c 0 rfl; have x1 := X0.c 1 rfl; have y0 := Y0.c 0 rfl; have y1 := Y0.c 1 rfl))
          clear x0 x1 y0 y1
          go_roundw
          case rel => exact ⟨t + 1, by omega, by go_num, by rw [hs.out, if_neg (by have := g2.out; simp [tipB, this]), List.append_nil]; exact hown, X0, Y0, Z0, B0⟩
          case measure => simp [intOf]; omega
        · replace g1 := Lib.hid g1
          replace g2 := Lib.hid g2
          go_wp2_with (first
            | (go_at_call 74; (with_reducible refine (J0t _ B0 (by omega)).mono ?_); rintro e w1 ⟨rfl, hb1⟩; clear x0 x1 y0 y1; replace hown := owns_next hown hb1; replace X0 := X0.ext hb1; replace Y0 := Y0.ext hb1; replace Z0 := Z0.ext hb1; replace B0 := nextB B0 hb1; have x0 := X0.c 0 rfl; have x1 := X0.c 1 rfl; have y0 := Y0.c 0 rfl; have y1 := Y0.c 1 rfl)
            | (go_at_call 74; (with_reducible refine (J1t _ B0 (by omega)).mono ?_); rintro e w1 ⟨rfl, hb1⟩; clear x0 x1 y0 y1; replace hown := owns_next hown hb1; replace X0 := X0.ext hb1; replace Y0 := Y0.ext hb1; replace Z0 := Z0.ext hb1; replace B0 := nextB B0 hb1; have x0 := X0.c 0 rfl; have x1 := X0.c 1 rfl; have y0 := Y0.c 0 rfl; have y1 := Y0.c 1 rfl)
            | (at_builtin; refine wpList_append_own _ rfl _ _ 30 rfl (w.heap.size + 3) 3 i0 (.int .i64 0) 1 8 Try.underlying30 G0.out G1.out G2.out G3.out rfl (by decide) _ _ _ rfl (hown.alloc _) ⟨_, 0, none⟩ 1 1 [.int .i64 (t : Int)] rfl rfl (cell_one_new _ _ _) (by simp [Value.oneCell']) (by unfold maxLen; omega) (by omega) (by have := Z0.lt; simp; omega) ?_; intro v' w2 hown2 hgrow _))
          clear x0 x1 y0 y1
          have hz := B0.size
          have B2 := (B0.alloc hz _).grown hgrow (by simp; omega) (fun q hq => by have := (hown.lt q hq).1; omega)
          have X2 := (X0.alloc _).grown hgrow (own_ne hown (by omega))
          have Y2 := (Y0.alloc _).grown hgrow (own_ne hown (by omega))
          have Z2 := (Z0.alloc _).grown hgrow (own_ne hown (by omega))
          go_roundw
          case rel => exact ⟨t + 1, by omega, by go_num, by rw [hs.out, if_pos (by have := g1.out; have := g2.out; simp [tipB, *]), lC_append]; simpa [lI, lC] using hown2, X2, Y2, Z2, B2⟩
          case measure => simp [intOf]; omega
    · obtain rfl : t = n := by omega
      have htl : 2 ≤ (tipsT t L (q0, q1) t).length := htip.out
      have hlc : (lC (tipsT t L (q0, q1) t)).length = (tipsT t L (q0, q1) t).length := lC_length _
      obtain ⟨av, cv, rfl, hcv, hints⟩ := own_intsA hown hlc
      obtain ⟨bt, offt, rfl, hct⟩ := ints_at hints (by omega)
      have q0' := hct 0 (by omega)
      have q1' := hct 1 (by omega)
      rw [Nat.add_zero] at q0'
      have ho1 := Lib.hid (show (otherL t L (q0, q1)).1 = min (nth (lC (tipsT t L (q0, q1) t)) 0) (nth (lC (tipsT t L (q0, q1) t)) 1) from rfl)
      have ho2 := Lib.hid (show (otherL t L (q0, q1)).2 = max (nth (lC (tipsT t L (q0, q1) t)) 0) (nth (lC (tipsT t L (q0, q1) t)) 1) from rfl)
      have z0 := cellX q0'
      have z1 := cellX q1'
      have i1 : (0 : Int) < ((tipsT t L (q0, q1) t).length : Int) := by omega
      have i2 : (1 : Int) < ((tipsT t L (q0, q1) t).length : Int) := by omega
      clear q0' q1' hct hints hown htip hlc
      generalize nth (lC (tipsT t L (q0, q1) t)) 0 = u0 at *
      generalize nth (lC (tipsT t L (q0, q1) t)) 1 = u1 at *
      generalize (tipsT t L (q0, q1) t).length = tl at *
      generalize otherL t L (q0, q1) = oo at *
      go_wp2
      refine wp_region_ext_tail 7 (by kernel_rfl) (by kernel_rfl) ?_
      simp only [List.take_succ_cons, List.take_zero, List.drop_succ_cons, List.drop_zero]
      repeat (go_big_quiet_step ((go_at_call 76; exact callE (lineOf_any _ _ _))))
      refine wpQuiet_nil ?_
      rintro ⟨w1, hw1⟩
      dsimp only
      replace B0 := nextB B0 hw1
      replace Z0 := Z0.ext hw1
      have r0 := Z0.c 0 rfl
      have r1 := Z0.c 1 rfl
      have f0 := Z0.fr 0
      have f1 := Z0.fr 1
      have hlt1 := Z0.lt
      clear z0 z1 hw1 X0 Y0
      go_wp2
      refine bodyPost_ret (v := .agg #[.int .i64 (min u0 u1), .int .i64 (max u0 u1)]) (by simp [results, Try.results68, go_sem, r0, r1]) rfl ?_
      exact Ret.mk (by rw [ho1.out, ho2.out]) ((B0.setCell (by simp; omega) _).setCell (by simp; omega) _)
end Go.Proofs.Ytflbaadfbjpakaa
