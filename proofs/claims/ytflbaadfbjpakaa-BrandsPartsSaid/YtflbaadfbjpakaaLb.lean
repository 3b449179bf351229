/- BrandsParts: IsBrand, Triangles and Round return what the specification returns: the walk. -/
import Derived.Test.YtflbaadfbjpakaaCi
import Derived.Laws.AppendOwnNone
namespace Go.Proofs.Ytflbaadfbjpakaa
open Go Go.RowKit

theorem eqT3 (a b c d e f : Int) (w : World) : (Op.equalIn 10000 29 (.agg #[.int .i64 a, .int .i64 b, .int .i64 c]) (.agg #[.int .i64 d, .int .i64 e, .int .i64 f])).run Try.prog w = .ok (a == d && b == e && c == f) w := by
  have u3 := Try.underlying3
  have a3 := Try.isAgg3
  have z3 := Try.sizeOf3
  rw [show (10000 : Nat) = 9999 + 1 from rfl, Op.equalIn]
  simp only [Sem.run_bind, run_underlying Try.underlying29, Result.andThen_ok]
  simp only [Std.Legacy.Range.forIn_eq_forIn_range', Std.Legacy.Range.size, Nat.sub_zero, Nat.add_sub_cancel, Nat.div_one, List.range'_succ, List.range'_zero, List.forIn_cons, List.forIn_nil]
  go_simp
  by_cases h1 : a = d <;> by_cases h2 : b = e <;> by_cases h3 : c = f <;> simp [h1, h2, h3]
/-- Are two triples the same? -/
def eqT (x y : Int × Int × Int) : Bool := x.1 == y.1 && x.2.1 == y.2.1 && x.2.2 == y.2.2
theorem eqT_self (x : Int × Int × Int) : eqT x x = true := by simp [eqT]
@[go_sem high] theorem run_neqT3 (a b c d e f : Int) (w : World) : (binOp .neq 29 (.agg #[.int .i64 a, .int .i64 b, .int .i64 c]) (.agg #[.int .i64 d, .int .i64 e, .int .i64 f])).run Try.prog w = .ok (.bool (!eqT (a, b, c) (d, e, f))) w := by
  rw [run_neq_struct, eqT3]; rfl
set_option maxRecDepth 100000 in
set_option maxHeartbeats 4000000 in
theorem parts_any (n : Int) (a : Option Addr) (len cap : Nat) (L : List (Int × Int)) (w : World) (h : Prs w a L) (hl : L.length = len) (hcap : len ≤ cap) (hnil : a = none → cap = 0) :
    Calls Try.prog 3 #[.int .i64 n, .slice a len cap] w (Ret (.bool true) w) := by
  by_cases h60 : len ≤ 60
  · obtain ⟨j0, hi, hz0, hz1, hz2⟩ := info_parts infoPair
    have P0 := Lib.hid hi
    have P1 := Lib.hid hz0
    have P2 := Lib.hid hz1
    have P3 := Lib.hid hz2
    clear hi hz0 hz1 hz2
    have hp := Lib.hid (show PartOk w ⟨a, len, cap, L⟩ from ⟨h, hl, hnil⟩)
    have hL2 := Lib.hid (show (cP L).length = len * 2 by rw [cP_length, hl])
    have hone := Lib.hid (cP_one L)
    have hlr : Hid (len = L.length) := Lib.hid hl.symm
    replace hl := Lib.hid hl
    cases a with
    | none =>
      obtain ⟨e1, e2, rfl⟩ := part_nil hp.out rfl
      simp only [] at e1 e2
      subst e1 e2
      go_enter Try.func3, Try.ntmps3
      go_wp2_with (at_builtin; refine wpList_append_own_none rfl _ _ 22 rfl w.heap.size 60 j0 2 Try.underlying22 P0.out _ _ _ rfl (World.ownsRow_made w #[] 0 (Nat.le_refl _) (by decide) rfl) rfl ?_)
      have B0 := b1 w (.cells #[] 60)
      generalize w.alloc (.cells #[] 60) = W1 at *
      have HA := Lib.hid (show Prs W1 none [] from .inl rfl)
      have HB := Lib.hid (show Prs W1 (some ⟨w.heap.size, 0, none⟩) [] from .inl rfl)
      have hl0 := Lib.hid (show ([] : List (Int × Int)).length = 0 from rfl)
      have hl1 := Lib.hid (show ([] : List (Int × Int)).length = 0 from rfl)
      have hc1 : 0 ≤ 0 := Nat.le_refl _
      clear hp hone hL2 h hnil
      by_cases hB : BrandP n []
      · have hk3 := hB.1
        have hk12 := hB.2.1
        obtain ⟨k, rfl⟩ : ∃ k : Nat, n = k := ⟨n.toNat, by omega⟩
        have I1 := Lib.hid (fun W (hW : Below W1.heap.size W1 W) => show Calls _ _ _ W (Ret (.bool true) W) from by
          have := IsBrand_any k (some ⟨w.heap.size, 0, none⟩) 0 0 [] W (HB.out.next hW) hl1.out hc1 (by omega)
          rwa [decide_eq_true hB] at this)
        have I2 := Lib.hid (fun W (hW : Below W1.heap.size W1 W) => show Calls _ _ _ W (Ret (.bool true) W) from by
          have := refIsBrand_any k none 0 0 [] W (HA.out.next hW) hl0.out (by omega)
          rwa [decide_eq_true hB] at this)
        have T1 := Lib.hid (fun W (hW : Below W1.heap.size W1 W) => Triangles_yes k (some ⟨w.heap.size, 0, none⟩) 0 0 [] W (HB.out.next hW) hl1.out hc1 hB)
        have T2 := Lib.hid (fun W (hW : Below W1.heap.size W1 W) => refTriangles_yes k none 0 0 [] W (HA.out.next hW) hl0.out hB)
        have R1 := Lib.hid (fun W (hW : Below W1.heap.size W1 W) => Round_yes k (some ⟨w.heap.size, 0, none⟩) 0 0 [] W (HB.out.next hW) hl1.out hc1 hB)
        have R2 := Lib.hid (fun W (hW : Below W1.heap.size W1 W) => refRound_yes k none 0 0 [] W (HA.out.next hW) hl0.out hB)
        have htl := tris_len [] (n := k) (by omega)
        have hrl := Lib.hid (roundL_length k [])
        have hkk : k ≤ 12 := by omega
        clear hB hk3 hk12
        obtain ⟨T, hT⟩ : ∃ T, T = tris k [] := ⟨_, rfl⟩
        go_wp2_with fail
        refine (I1.out _ (Below.refl _ _)).mono ?_
        rintro e w3 ⟨rfl, hb3⟩
        dsimp only
        go_wp2_with fail
        refine (I2.out _ hb3).mono ?_
        rintro e w4 ⟨rfl, hb4⟩
        dsimp only
        replace hb3 := nextB hb3 hb4
        clear hb4 I1 I2
        go_wp2_with fail
        refine (T1.out _ hb3).mono ?_
        rintro e w5 ⟨a5, c5, rfl, _, ht5, _, hb5⟩
        rw [← hT] at ht5 htl
        rw [← hT]
        dsimp only
        replace hb3 := nextB hb3 hb5
        clear hb5 T1
        go_wp2_with fail
        refine (T2.out _ hb3).mono ?_
        rintro e w6 ⟨a6, c6, rfl, _, ht6, _, hb6⟩
        rw [← hT] at ht6
        rw [← hT]
        dsimp only
        replace ht5 := ht5.next hb6
        replace hb3 := nextB hb3 hb6
        clear hb6 T2 hT
        obtain ⟨q, hq⟩ : ∃ q, q = T.length := ⟨_, rfl⟩
        rw [← hq] at htl
        rw [← hq]
        replace hq := Lib.hid hq
        replace ht5 := Lib.hid ht5
        replace ht6 := Lib.hid ht6
        go_wp2_with fail
        go_loopw [10] (fun i wr => ∃ t : Nat, t ≤ q ∧ i = .int .i64 t ∧ Below w6.heap.size w6 wr) (fun i _ => q - (intOf i).toNat)
        case atStart => exact ⟨0, by omega, rfl, Below.refl _ _⟩
        case round =>
          obtain ⟨t, ht, rfl, C0⟩ := hrel
          by_cases hlt : t < q
          · rcases ht5.out.next C0 with h5 | ⟨b5, rfl, h5⟩
            · exact absurd hq.out (by omega)
            rcases ht6.out.next C0 with h6 | ⟨b6, rfl, h6⟩
            · exact absurd hq.out (by omega)
            obtain ⟨x0, x1, x2⟩ := h5 t (by rw [← hq.out]; exact hlt)
            obtain ⟨y0, y1, y2⟩ := h6 t (by rw [← hq.out]; exact hlt)
            clear h5 h6
            have ee := eqT_self ((tth T t).1, (tth T t).2.1, (tth T t).2.2)
            change eqT ((((tth T t).1 : Nat) : Int), (((tth T t).2.1 : Nat) : Int), (((tth T t).2.2 : Nat) : Int)) ((((tth T t).1 : Nat) : Int), (((tth T t).2.1 : Nat) : Int), (((tth T t).2.2 : Nat) : Int)) = true at ee
            have X0 := cellX x0
            have X1 := cellX x1
            have X2 := cellX x2
            have Y0 := cellX y0
            have Y1 := cellX y1
            have Y2 := cellX y2
            clear x0 x1 x2 y0 y1 y2
            have hi1 : (t : Int) < (q : Int) := by omega
            go_wp2_with fail
            refine wp_region_ext (by kernel_rfl) (by kernel_rfl) ?_
            repeat (go_big_quiet_step (fail))
            refine wpQuiet_nil ?_
            rintro ⟨w7, hw7⟩
            dsimp only
            replace C0 := nextB C0 hw7
            clear X0 X1 X2 Y0 Y1 Y2 hw7
            go_wp2_with fail
            go_roundw
            case rel => exact ⟨t + 1, by omega, by go_num, C0⟩
            case measure => simp [intOf]; omega
          · replace hb3 := nextB hb3 C0
            clear C0 ht5 ht6
            go_wp2_with fail
            refine (R1.out _ hb3).mono ?_
            rintro e w7 ⟨g7, rfl, hr7, _, hb7⟩
            dsimp only
            replace hr7 := blk_ints hr7
            replace hb3 := nextB hb3 hb7
            clear hb7
            go_wp2_with fail
            refine (R2.out _ hb3).mono ?_
            rintro e w8 ⟨g8, rfl, hr8, _, hb8⟩
            dsimp only
            replace hr8 := blk_ints hr8
            replace hr7 := hr7.next hb8
            replace hb3 := nextB hb3 hb8
            clear hb8 R1 R2
            have S := same_any _ _ k k k k _ _ w8 hr7 hr8 hrl.out hrl.out (by omega) (by omega)
            rw [decide_eq_true rfl] at S
            go_wp2_with fail
            refine S.mono ?_
            rintro e w9 ⟨rfl, hb9⟩
            dsimp only
            replace hb3 := nextB hb3 hb9
            clear hb9 S hr7 hr8
            have S := pairs_any (some ⟨w.heap.size, 0, none⟩) none 0 0 0 0 [] [] w9 (HB.out.next hb3) (HA.out.next hb3) hl1.out hl0.out (by omega) (by omega)
            rw [decide_eq_true rfl] at S
            replace S := Lib.hid S
            go_wp2_with fail
            refine S.out.mono ?_
            rintro e w10 ⟨rfl, hb10⟩
            dsimp only
            replace hb3 := nextB hb3 hb10
            clear hb10 S
            go_wp2_with (go_at_call 17; refine (alive_any _).mono ?_; rintro e w11 ⟨rfl, hb11⟩)
            go_ret
            exact Ret.mk rfl (nextB B0 (nextB hb3 hb11))
      · have I1 := Lib.hid (fun W (hW : Below W1.heap.size W1 W) => show Calls _ _ _ W (Ret (.bool false) W) from by
          have := IsBrand_any n (some ⟨w.heap.size, 0, none⟩) 0 0 [] W (HB.out.next hW) hl1.out hc1 (by omega)
          rwa [decide_eq_false hB] at this)
        have I2 := Lib.hid (fun W (hW : Below W1.heap.size W1 W) => show Calls _ _ _ W (Ret (.bool false) W) from by
          have := refIsBrand_any n none 0 0 [] W (HA.out.next hW) hl0.out (by omega)
          rwa [decide_eq_false hB] at this)
        have T1 := Lib.hid (fun W (hW : Below W1.heap.size W1 W) => Triangles_no n (some ⟨w.heap.size, 0, none⟩) 0 0 [] W (HB.out.next hW) hl1.out hc1 (by omega) hB)
        have T2 := Lib.hid (fun W (hW : Below W1.heap.size W1 W) => refTriangles_no n none 0 0 [] W (HA.out.next hW) hl0.out (by omega) hB)
        have R1 := Lib.hid (fun W (hW : Below W1.heap.size W1 W) => Round_no n (some ⟨w.heap.size, 0, none⟩) 0 0 [] W (HB.out.next hW) hl1.out hc1 (by omega) hB)
        have R2 := Lib.hid (fun W (hW : Below W1.heap.size W1 W) => refRound_no n none 0 0 [] W (HA.out.next hW) hl0.out (by omega) hB)
        clear hB
        go_wp2_with fail
        refine (I1.out _ (Below.refl _ _)).mono ?_
        rintro e w3 ⟨rfl, hb3⟩
        dsimp only
        go_wp2_with fail
        refine (I2.out _ hb3).mono ?_
        rintro e w4 ⟨rfl, hb4⟩
        dsimp only
        replace hb3 := nextB hb3 hb4
        clear hb4 I1 I2
        go_wp2_with fail
        refine (T1.out _ hb3).mono ?_
        rintro e w5 ⟨rfl, hb5⟩
        dsimp only
        replace hb3 := nextB hb3 hb5
        clear hb5
        go_wp2_with fail
        refine (T2.out _ hb3).mono ?_
        rintro e w6 ⟨rfl, hb6⟩
        dsimp only
        replace hb3 := nextB hb3 hb6
        clear hb6
        go_wp2_with fail
        go_loopw [10] (fun i wr => i = .int .i64 0 ∧ wr = w6) (fun i _ => 0)
        case atStart => exact ⟨rfl, rfl⟩
        case round =>
          obtain ⟨rfl, rfl⟩ := hrel
          go_wp2_with fail
          refine (R1.out _ hb3).mono ?_
          rintro e w7 ⟨rfl, hb7⟩
          dsimp only
          replace hb3 := nextB hb3 hb7
          clear hb7
          go_wp2_with fail
          refine (R2.out _ hb3).mono ?_
          rintro e w8 ⟨rfl, hb8⟩
          dsimp only
          replace hb3 := nextB hb3 hb8
          clear hb8
          have S := same_any none none 0 0 0 0 [] [] w8 (.inl rfl) (.inl rfl) rfl rfl (by omega) (by omega)
          rw [decide_eq_true rfl] at S
          go_wp2_with fail
          refine S.mono ?_
          rintro e w9 ⟨rfl, hb9⟩
          dsimp only
          replace hb3 := nextB hb3 hb9
          clear hb9 S
          have S := pairs_any (some ⟨w.heap.size, 0, none⟩) none 0 0 0 0 [] [] w9 (HB.out.next hb3) (HA.out.next hb3) hl1.out hl0.out (by omega) (by omega)
          rw [decide_eq_true rfl] at S
          replace S := Lib.hid S
          go_wp2_with fail
          refine S.out.mono ?_
          rintro e w10 ⟨rfl, hb10⟩
          dsimp only
          replace hb3 := nextB hb3 hb10
          clear hb10 S
          go_wp2_with (go_at_call 17; refine (alive_any _).mono ?_; rintro e w11 ⟨rfl, hb11⟩)
          go_ret
          exact Ret.mk rfl (nextB B0 (nextB hb3 hb11))
    | some ad =>
      have src := Lib.hid (part_src hp.out rfl)
      clear h hnil
      go_enter Try.func3, Try.ntmps3
      go_wp2_with (at_builtin; refine wpList_append_own _ rfl _ _ 22 rfl w.heap.size 60 j0 (.agg #[.int .i64 0, .int .i64 0]) 2 16 Try.underlying22 P0.out P1.out P2.out P3.out rfl (by decide) _ _ _ rfl (World.ownsRow_made w #[] 0 (Nat.le_refl _) (by decide) rfl) ad len cap (cP L) rfl hL2.out (fun j u hj => cellB (b1 _ _) (src.out j u hj)) hone.out (by unfold maxLen; omega) (by omega) (by simp) ?_; intro v' w2 hown hgrow _; rw [Nat.zero_add, List.nil_append, hlr.out] at hown; obtain ⟨a1, c1, rfl, hc1, hp1⟩ := own_prs hown)
      have HA := Lib.hid (show Prs w2 (some ad) L from hp.out.1.next (((Below.refl _ w).alloc (Nat.le_refl _) _).grown hgrow (by simp) (fun _ h => by cases h; exact Nat.le_refl _)))
      have HB := Lib.hid hp1
      have hl0 := hl
      skip
      have hL60 : L.length ≤ 60 := by rw [← hlr.out]; exact h60
      have B0 : Below w.heap.size w w2 := ((Below.refl _ w).alloc (Nat.le_refl _) _).grown hgrow (by simp) (fun _ h => by cases h; exact Nat.le_refl _)
      clear hgrow hown hp1 hp src hone hL2
      obtain ⟨W1, hW1⟩ : ∃ W1, W1 = w2 := ⟨_, rfl⟩
      subst hW1
      by_cases hB : BrandP n L
      · have hk3 := hB.1
        have hk12 := hB.2.1
        obtain ⟨k, rfl⟩ : ∃ k : Nat, n = k := ⟨n.toNat, by omega⟩
        have I1 := Lib.hid (fun W (hW : Below W1.heap.size W1 W) => show Calls _ _ _ W (Ret (.bool true) W) from by
          have := IsBrand_any k a1 L.length c1 L W (HB.out.next hW) rfl hc1 (by omega)
          rwa [decide_eq_true hB] at this)
        have I2 := Lib.hid (fun W (hW : Below W1.heap.size W1 W) => show Calls _ _ _ W (Ret (.bool true) W) from by
          have := refIsBrand_any k (some ad) len cap L W (HA.out.next hW) hl0.out (by omega)
          rwa [decide_eq_true hB] at this)
        have T1 := Lib.hid (fun W (hW : Below W1.heap.size W1 W) => Triangles_yes k a1 L.length c1 L W (HB.out.next hW) rfl hc1 hB)
        have T2 := Lib.hid (fun W (hW : Below W1.heap.size W1 W) => refTriangles_yes k (some ad) len cap L W (HA.out.next hW) hl0.out hB)
        have R1 := Lib.hid (fun W (hW : Below W1.heap.size W1 W) => Round_yes k a1 L.length c1 L W (HB.out.next hW) rfl hc1 hB)
        have R2 := Lib.hid (fun W (hW : Below W1.heap.size W1 W) => refRound_yes k (some ad) len cap L W (HA.out.next hW) hl0.out hB)
        have htl := tris_len L (n := k) (by omega)
        have hrl := Lib.hid (roundL_length k L)
        have hkk : k ≤ 12 := by omega
        clear hB hk3 hk12
        obtain ⟨T, hT⟩ : ∃ T, T = tris k L := ⟨_, rfl⟩
        go_wp2_with fail
        refine (I1.out _ (Below.refl _ _)).mono ?_
        rintro e w3 ⟨rfl, hb3⟩
        dsimp only
        go_wp2_with fail
        refine (I2.out _ hb3).mono ?_
        rintro e w4 ⟨rfl, hb4⟩
        dsimp only
        replace hb3 := nextB hb3 hb4
        clear hb4 I1 I2
        go_wp2_with fail
        refine (T1.out _ hb3).mono ?_
        rintro e w5 ⟨a5, c5, rfl, _, ht5, _, hb5⟩
        rw [← hT] at ht5 htl
        rw [← hT]
        dsimp only
        replace hb3 := nextB hb3 hb5
        clear hb5 T1
        go_wp2_with fail
        refine (T2.out _ hb3).mono ?_
        rintro e w6 ⟨a6, c6, rfl, _, ht6, _, hb6⟩
        rw [← hT] at ht6
        rw [← hT]
        dsimp only
        replace ht5 := ht5.next hb6
        replace hb3 := nextB hb3 hb6
        clear hb6 T2 hT
        obtain ⟨q, hq⟩ : ∃ q, q = T.length := ⟨_, rfl⟩
        rw [← hq] at htl
        rw [← hq]
        replace hq := Lib.hid hq
        replace ht5 := Lib.hid ht5
        replace ht6 := Lib.hid ht6
        go_wp2_with fail
        go_loopw [10] (fun i wr => ∃ t : Nat, t ≤ q ∧ i = .int .i64 t ∧ Below w6.heap.size w6 wr) (fun i _ => q - (intOf i).toNat)
        case atStart => exact ⟨0, by omega, rfl, Below.refl _ _⟩
        case round =>
          obtain ⟨t, ht, rfl, C0⟩ := hrel
          by_cases hlt : t < q
          · rcases ht5.out.next C0 with h5 | ⟨b5, rfl, h5⟩
            · exact absurd hq.out (by omega)
            rcases ht6.out.next C0 with h6 | ⟨b6, rfl, h6⟩
            · exact absurd hq.out (by omega)
            obtain ⟨x0, x1, x2⟩ := h5 t (by rw [← hq.out]; exact hlt)
            obtain ⟨y0, y1, y2⟩ := h6 t (by rw [← hq.out]; exact hlt)
            clear h5 h6
            have ee := eqT_self ((tth T t).1, (tth T t).2.1, (tth T t).2.2)
            change eqT ((((tth T t).1 : Nat) : Int), (((tth T t).2.1 : Nat) : Int), (((tth T t).2.2 : Nat) : Int)) ((((tth T t).1 : Nat) : Int), (((tth T t).2.1 : Nat) : Int), (((tth T t).2.2 : Nat) : Int)) = true at ee
            have X0 := cellX x0
            have X1 := cellX x1
            have X2 := cellX x2
            have Y0 := cellX y0
            have Y1 := cellX y1
            have Y2 := cellX y2
            clear x0 x1 x2 y0 y1 y2
            have hi1 : (t : Int) < (q : Int) := by omega
            go_wp2_with fail
            refine wp_region_ext (by kernel_rfl) (by kernel_rfl) ?_
            repeat (go_big_quiet_step (fail))
            refine wpQuiet_nil ?_
            rintro ⟨w7, hw7⟩
            dsimp only
            replace C0 := nextB C0 hw7
            clear X0 X1 X2 Y0 Y1 Y2 hw7
            go_wp2_with fail
            go_roundw
            case rel => exact ⟨t + 1, by omega, by go_num, C0⟩
            case measure => simp [intOf]; omega
          · replace hb3 := nextB hb3 C0
            clear C0 ht5 ht6
            go_wp2_with fail
            refine (R1.out _ hb3).mono ?_
            rintro e w7 ⟨g7, rfl, hr7, _, hb7⟩
            dsimp only
            replace hr7 := blk_ints hr7
            replace hb3 := nextB hb3 hb7
            clear hb7
            go_wp2_with fail
            refine (R2.out _ hb3).mono ?_
            rintro e w8 ⟨g8, rfl, hr8, _, hb8⟩
            dsimp only
            replace hr8 := blk_ints hr8
            replace hr7 := hr7.next hb8
            replace hb3 := nextB hb3 hb8
            clear hb8 R1 R2
            have S := same_any _ _ k k k k _ _ w8 hr7 hr8 hrl.out hrl.out (by omega) (by omega)
            rw [decide_eq_true rfl] at S
            go_wp2_with fail
            refine S.mono ?_
            rintro e w9 ⟨rfl, hb9⟩
            dsimp only
            replace hb3 := nextB hb3 hb9
            clear hb9 S hr7 hr8
            have S := pairs_any a1 (some ad) L.length len c1 cap L L w9 (HB.out.next hb3) (HA.out.next hb3) rfl hl0.out (by omega) (by omega)
            rw [decide_eq_true rfl] at S
            replace S := Lib.hid S
            go_wp2_with fail
            refine S.out.mono ?_
            rintro e w10 ⟨rfl, hb10⟩
            dsimp only
            replace hb3 := nextB hb3 hb10
            clear hb10 S
            go_wp2_with (go_at_call 17; refine (alive_any _).mono ?_; rintro e w11 ⟨rfl, hb11⟩)
            go_ret
            exact Ret.mk rfl (nextB B0 (nextB hb3 hb11))
      · have I1 := Lib.hid (fun W (hW : Below W1.heap.size W1 W) => show Calls _ _ _ W (Ret (.bool false) W) from by
          have := IsBrand_any n a1 L.length c1 L W (HB.out.next hW) rfl hc1 (by omega)
          rwa [decide_eq_false hB] at this)
        have I2 := Lib.hid (fun W (hW : Below W1.heap.size W1 W) => show Calls _ _ _ W (Ret (.bool false) W) from by
          have := refIsBrand_any n (some ad) len cap L W (HA.out.next hW) hl0.out (by omega)
          rwa [decide_eq_false hB] at this)
        have T1 := Lib.hid (fun W (hW : Below W1.heap.size W1 W) => Triangles_no n a1 L.length c1 L W (HB.out.next hW) rfl hc1 (by omega) hB)
        have T2 := Lib.hid (fun W (hW : Below W1.heap.size W1 W) => refTriangles_no n (some ad) len cap L W (HA.out.next hW) hl0.out (by omega) hB)
        have R1 := Lib.hid (fun W (hW : Below W1.heap.size W1 W) => Round_no n a1 L.length c1 L W (HB.out.next hW) rfl hc1 (by omega) hB)
        have R2 := Lib.hid (fun W (hW : Below W1.heap.size W1 W) => refRound_no n (some ad) len cap L W (HA.out.next hW) hl0.out (by omega) hB)
        clear hB
        go_wp2_with fail
        refine (I1.out _ (Below.refl _ _)).mono ?_
        rintro e w3 ⟨rfl, hb3⟩
        dsimp only
        go_wp2_with fail
        refine (I2.out _ hb3).mono ?_
        rintro e w4 ⟨rfl, hb4⟩
        dsimp only
        replace hb3 := nextB hb3 hb4
        clear hb4 I1 I2
        go_wp2_with fail
        refine (T1.out _ hb3).mono ?_
        rintro e w5 ⟨rfl, hb5⟩
        dsimp only
        replace hb3 := nextB hb3 hb5
        clear hb5
        go_wp2_with fail
        refine (T2.out _ hb3).mono ?_
        rintro e w6 ⟨rfl, hb6⟩
        dsimp only
        replace hb3 := nextB hb3 hb6
        clear hb6
        go_wp2_with fail
        go_loopw [10] (fun i wr => i = .int .i64 0 ∧ wr = w6) (fun i _ => 0)
        case atStart => exact ⟨rfl, rfl⟩
        case round =>
          obtain ⟨rfl, rfl⟩ := hrel
          go_wp2_with fail
          refine (R1.out _ hb3).mono ?_
          rintro e w7 ⟨rfl, hb7⟩
          dsimp only
          replace hb3 := nextB hb3 hb7
          clear hb7
          go_wp2_with fail
          refine (R2.out _ hb3).mono ?_
          rintro e w8 ⟨rfl, hb8⟩
          dsimp only
          replace hb3 := nextB hb3 hb8
          clear hb8
          have S := same_any none none 0 0 0 0 [] [] w8 (.inl rfl) (.inl rfl) rfl rfl (by omega) (by omega)
          rw [decide_eq_true rfl] at S
          go_wp2_with fail
          refine S.mono ?_
          rintro e w9 ⟨rfl, hb9⟩
          dsimp only
          replace hb3 := nextB hb3 hb9
          clear hb9 S
          have S := pairs_any a1 (some ad) L.length len c1 cap L L w9 (HB.out.next hb3) (HA.out.next hb3) rfl hl0.out (by omega) (by omega)
          rw [decide_eq_true rfl] at S
          replace S := Lib.hid S
          go_wp2_with fail
          refine S.out.mono ?_
          rintro e w10 ⟨rfl, hb10⟩
          dsimp only
          replace hb3 := nextB hb3 hb10
          clear hb10 S
          go_wp2_with (go_at_call 17; refine (alive_any _).mono ?_; rintro e w11 ⟨rfl, hb11⟩)
          go_ret
          exact Ret.mk rfl (nextB B0 (nextB hb3 hb11))
  · have hgt : 60 < len := by omega
    clear h60 h hl
    go_enter Try.func3, Try.ntmps3
    go_wp2_with (go_at_call 17; refine (alive_any _).mono ?_; rintro e w2 ⟨rfl, hb2⟩)
    go_ret
    exact Ret.mk rfl hb2
end Go.Proofs.Ytflbaadfbjpakaa
