/- Layer 3, by the specification: Least. -/
import Derived.Test.YtnnndooagpkgmaaWh
namespace Go.Proofs.Ytnnndooagpkgmaa
open Go Go.RowKit

def outTo (n : Nat) (f : Nat → Bool) (k : Nat) : List Nat := (List.range k).filter (isLeast n f)
theorem outTo_succ (n : Nat) (f : Nat → Bool) (k : Nat) : outTo n f (k + 1) = if isLeast n f k then outTo n f k ++ [k] else outTo n f k := by
  unfold outTo
  rw [List.range_succ, List.filter_append]
  cases h : isLeast n f k <;> simp [h]
theorem outTo_len (n : Nat) (f : Nat → Bool) (k : Nat) : (outTo n f k).length ≤ k := by
  unfold outTo
  have := List.length_filter_le (isLeast n f) (List.range k)
  rw [List.length_range] at this
  exact this
set_option maxRecDepth 100000 in
set_option maxHeartbeats 8000000 in
theorem refLeast_yes (q : Int) (a : Option Addr) (n c : Nat) (ws : List Int) (w : World) (h : Ints w a ws) (hl : ws.length = n) (hB : BodyP q ws) :
    Calls Try.prog 20 #[bodyV q a n c] w (GotI (lN (leastL (winB q ws) (pw n))) w) := by
  obtain ⟨i0, hi, hz0, hz1, hz2⟩ := info_parts infoInt
  have G0 := Lib.hid hi
  have G1 := Lib.hid hz0
  have G2 := Lib.hid hz1
  have G3 := Lib.hid hz2
  clear hi hz0 hz1 hz2
  have h8 : n ≤ 8 := by have := hB.2.1; omega
  have hp8 : pw n ≤ 256 := by have := pw_mono h8; simpa [pw] using this
  have hp1 : 1 ≤ pw n := pw_pos n
  have K := Lib.hid (fun W hW => refIsBody_any q a n c ws W hW hl (by omega))
  rw [decide_eq_true hB] at K
  have gm : Game n (winB q ws) := by have := game_body hB; rwa [hl] at this
  have V := Lib.hid (fun W hW s (hs : s < pw n) => refwins_any q a n c s ws W hW hl h8 hB.2.2.1 (by omega))
  have sh := wrap_shl (k := n) (by omega)
  have hend : Hid (outTo n (winB q ws) (pw n) = leastL (winB q ws) (pw n)) := Lib.hid (leastL_filter gm _ (Nat.le_refl _)).symm
  have hbeg : Hid (outTo n (winB q ws) 1 = []) := Lib.hid (by
    rw [outTo_succ]
    have : isLeast n (winB q ws) 0 = false := by unfold isLeast; rw [gm.zero]; rfl
    rw [this]; rfl)
  have hol := Lib.hid (outTo_len n (winB q ws))
  have X := Lib.hid (Blk.new w 24 #[.int .i64 q, .slice a n c])
  obtain ⟨N, hN⟩ : ∃ N, Hid (pw n = N) := ⟨_, Lib.hid rfl⟩
  rw [hN.out] at hp8 hp1 V sh hend ⊢
  rw [← hend.out]
  clear gm
  generalize winB q ws = f at *
  have h := Lib.hid h
  clear hl hB
  go_enter Try.func20, Try.ntmps20
  go_wp2_with (go_at_call 41; refine (K.out _ (h.out.next (b1 _ _))).mono ?_; rintro e w1 ⟨rfl, hb1⟩)
  have X1 := X.out.ext hb1
  have B1 := nextB (b1 w (.cells #[.int .i64 q, .slice a n c] 24)) hb1
  clear hb1
  go_loopw [4, 5, 6, 7] (fun v s _ _ wr => ∃ k : Nat, 1 ≤ k ∧ k ≤ N ∧ s = .int .i64 k ∧ wr.ownsRow w.heap.size 3 1 v (lN (outTo n f k)).length (lI (lN (outTo n f k))) ∧ Blk wr w.heap.size 24 #[.int .i64 q, .slice a n c] ∧ Below w.heap.size w wr) (fun _ s _ _ _ => N - (intOf s).toNat)
  case atStart => exact ⟨1, by omega, by omega, rfl, by rw [hbeg.out]; exact World.ownsRow_nil _ _ _ _, X1, B1⟩
  case round =>
    clear X1 B1
    obtain ⟨k, hk1, hk, rfl, hown, X1, B1⟩ := hrel
    have x0 := X1.c 0 rfl
    have x1 := X1.c 1 rfl
    obtain ⟨r, rc, rfl, hrc, hI⟩ := own_intsA hown rfl
    replace hI := Lib.hid hI
    by_cases hlt : k < N
    · clear hrc hI
      have hki : (k : Int) < (N : Int) := by omega
      have hst := Lib.hid (outTo_succ n f k)
      have hlk := Lib.hid (hol.out k)
      have V1 := Lib.hid (fun W hW => V.out W hW k hlt)
      have V2 := Lib.hid (fun W hW i (hb : k.testBit i = true) => V.out W hW (k - pw i) (by omega))
      have hls := Lib.hid (leastTo_succ f k)
      have hlf := Lib.hid (fun i (hi : i ≤ n) (hh : leastTo f k i = false) => leastTo_false hh hi)
      have hl0 : Hid (leastTo f k 0 = f k) := Lib.hid (by simp [leastTo])
      have hln := Lib.hid (leastTo_isLeast n f k)
      generalize outTo n f k = L at *
      replace hown := Lib.hid hown
      replace X1 := Lib.hid X1
      go_wp2_with (go_at_call 45; refine (V1.out _ (h.out.next B1)).mono ?_; rintro e w2 ⟨rfl, hb2⟩)
      have X2 := X1.out.ext hb2
      have hown2 := Lib.hid (owns_next hown.out hb2)
      have B2 := nextB B1 hb2
      clear x0 x1 hb2
      rw [← hl0.out]
      generalize w2 = w3 at *
      go_loopw [6, 7] (fun t i wr => ∃ j : Nat, j ≤ n ∧ i = .int .i64 j ∧ t = .bool (leastTo f k j) ∧ wr.ownsRow w.heap.size 3 1 (.slice r (lN L).length rc) (lN L).length (lI (lN L)) ∧ Blk wr w.heap.size 24 #[.int .i64 q, .slice a n c] ∧ Below w.heap.size w wr) (fun _ i _ => n - (intOf i).toNat)
      case atStart => exact ⟨0, by omega, rfl, rfl, hown2.out, X2, B2⟩
      case round =>
        clear X2 B2 hown2 hown X1
        obtain ⟨j, hj, rfl, rfl, hown, X1, B1⟩ := hrel
        have x0 := X1.c 0 rfl
        have x1 := X1.c 1 rfl
        replace X1 := Lib.hid X1
        have hlsj := Lib.hid (hls.out j)
        have hlfj := Lib.hid (hlf.out j hj)
        cases g : leastTo f k j
        · have hil := Lib.hid (hlfj.out g)
          rw [hil.out] at hst
          replace g := Lib.hid g
          by_cases hjn : j < n
          · have hji : (j : Int) < (n : Int) := by omega
            have hd : decide (j < n) = true := decide_eq_true hjn
            replace hown := Lib.hid hown
            go_wp2
            go_roundw
            case rel => exact ⟨k + 1, by omega, by omega, by go_num, by rw [hst.out]; exact hown.out, X1.out, B1⟩
            case measure => simp [intOf]; omega
          · have hd : decide (j < n) = false := decide_eq_false hjn
            replace hown := Lib.hid hown
            go_wp2
            go_roundw
            case rel => exact ⟨k + 1, by omega, by omega, by go_num, by rw [hst.out]; exact hown.out, X1.out, B1⟩
            case measure => simp [intOf]; omega
        · rw [g] at hlsj
          by_cases hjn : j < n
          · have hji : (j : Int) < (n : Int) := by omega
            have hd : decide (j < n) = true := decide_eq_true hjn
            replace g := Lib.hid g
            replace hown := Lib.hid hown
            have hbt := bt_int k j
            have y0 := cellX x0
            have y1 := cellX x1
            have shj : IntKind.i64.wrap ((2 : Int) ^ j) = ((pw j : Nat) : Int) := by rw [pw_int]; exact wrap_pw (by omega)
            cases hb : k.testBit j
            · rw [bt_zero.2 hb] at hbt
              rw [hb] at hlsj
              replace hb := Lib.hid hb
              replace hlsj : Hid (leastTo f k (j + 1) = true) := Lib.hid (by rw [hlsj.out]; rfl)
              go_wp2
              refine wp_region_ext (by kernel_rfl) (by kernel_rfl) ?_
              repeat (go_big_quiet_step (fail))
              refine wpQuiet_nil ?_
              rintro ⟨w4, hw4⟩
              dsimp only
              clear y0 y1
              have hown3 := Lib.hid (owns_next hown.out hw4)
              have X3 := Lib.hid (X1.out.ext hw4)
              go_wp2
              go_roundw
              case rel => exact ⟨j + 1, by omega, by go_num, by rw [hlsj.out], hown3.out, X3.out, nextB B1 hw4⟩
              case measure => simp [intOf]; omega
            · rw [bt_one.2 hb] at hbt
              rw [hb] at hlsj
              have hle := (sub_test hb).1
              have hsub : IntKind.i64.wrap ((k : Int) - ((pw j : Nat) : Int)) = ((k - pw j : Nat) : Int) := by rw [IntWalk.i64_in _ (by omega)]; omega
              have V3 := Lib.hid (fun W hW => V2.out W hW j hb)
              replace hb := Lib.hid hb
              obtain ⟨u, hu⟩ : ∃ u, Hid (k - pw j = u) := ⟨_, Lib.hid rfl⟩
              rw [hu.out] at hsub V3 hlsj
              cases gu : f u
              all_goals
                rw [gu] at V3 hlsj
                replace gu := Lib.hid gu
                go_wp2
                refine wp_region_ext (by kernel_rfl) (by kernel_rfl) ?_
                repeat (go_big_quiet_step ((go_at_call 45; exact callE (V3.out _ ((h.out.next B1).next (Ext.ok _))))))
                refine wpQuiet_nil ?_
                rintro ⟨w4, hw4⟩
                dsimp only
                clear y0 y1
                have hown3 := Lib.hid (owns_next hown.out hw4)
                have X3 := Lib.hid (X1.out.ext hw4)
                go_wp2
                go_roundw
                case rel => exact ⟨j + 1, by omega, by go_num, by rw [hlsj.out]; rfl, hown3.out, X3.out, nextB B1 hw4⟩
                case measure => simp [intOf]; omega
          · obtain rfl : j = n := by omega
            have hd : decide (j < j) = false := decide_eq_false hjn
            rw [hln.out] at g
            rw [g] at hst
            replace g := Lib.hid g
            have hL1 := lN_length L
            have hL2 : (lN L).length ≤ k := by have := hlk.out; omega
            clear hL1
            go_wp2_with (at_builtin; refine wpList_append_own _ rfl _ _ 22 rfl w.heap.size 3 i0 (.int .i64 0) 1 8 Try.underlying22 G0.out G1.out G2.out G3.out rfl (by decide) _ _ _ rfl (hown.alloc _) ⟨_, 0, none⟩ 1 1 [.int .i64 (k : Int)] rfl rfl (cell_one_new _ _ _) (by simp [Value.oneCell']) (by unfold maxLen; omega) (by omega) (by have := B1.size; simp; omega) ?_; intro v' w2 hown2 hgrow _)
            have hsz := B1.size
            have B2 := (B1.alloc hsz _).grown hgrow (by simp; omega) (fun q hq => by have := (hown.lt q hq).1; omega)
            have hvb : (Value.slice r (lN L).length rc).ownBlock ≠ some w.heap.size := fun e => by
              have h1 := X1.out
              rcases hown.2 with ⟨e1, _⟩ | ⟨g', cap, cur, e1, _, hg, _⟩
              · rw [e1] at e; simp [Value.ownBlock] at e
              · rw [e1] at e
                simp [Value.ownBlock] at e
                subst e
                have := h1.symm.trans hg
                simp at this
            have X3 := (X1.out.alloc (.cells #[.int .i64 (k : Int)] 3)).grown hgrow (Ne.symm hvb)
            go_roundw
            case rel => exact ⟨k + 1, by omega, by omega, by go_num, by rw [hst.out, if_pos rfl, lN_snoc, List.length_append, lI_snoc]; exact hown2, X3, B2⟩
            case measure => simp [intOf]; omega
    · obtain rfl : k = N := by omega
      replace hown := Lib.hid hown
      go_wp2_with fail
      go_ret2
      exact ⟨r, rc, rfl, hrc, hI.out, B1⟩
end Go.Proofs.Ytnnndooagpkgmaa
