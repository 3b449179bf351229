/- Layer 3, by the specification: Turns. -/
import Derived.Test.YtnnndooagpkgmaaWi
namespace Go.Proofs.Ytnnndooagpkgmaa
open Go Go.RowKit

theorem listI_succ (g : Nat → Int) (k : Nat) : listI g (k + 1) = listI g k ++ [g k] := by
  unfold listI
  rw [List.range_succ, List.map_append]; rfl
theorem refTurns_no (q : Int) (a : Option Addr) (n c : Nat) (ws : List Int) (w : World) (h : Ints w a ws) (hl : ws.length = n) (hn : n ≤ 30) (hB : ¬ BodyP q ws) :
    Calls Try.prog 23 #[bodyV q a n c] w (Ret (errV (.slice none 0 0)) w) := by
  have K := Lib.hid (fun W hW => refIsBody_any q a n c ws W hW hl (by omega))
  rw [decide_eq_false hB] at K
  have h := Lib.hid h
  clear hl hB
  go_enter Try.func23, Try.ntmps23
  go_wp2_with (go_at_call 41; refine (K.out _ (h.out.next (b1 _ _))).mono ?_; rintro e w1 ⟨rfl, hb1⟩)
  go_ret2
  exact Ret.mk rfl (nextB (b1 _ _) hb1)
set_option maxRecDepth 100000 in
set_option maxHeartbeats 8000000 in
theorem refTurns_yes (q : Int) (a : Option Addr) (n c : Nat) (ws : List Int) (w : World) (h : Ints w a ws) (hl : ws.length = n) (hB : BodyP q ws) :
    Calls Try.prog 23 #[bodyV q a n c] w (GotI (listI (turnI (winB q ws) (pw n)) n) w) := by
  obtain ⟨i0, hi, hz0, hz1, hz2⟩ := info_parts infoInt
  have G0 := Lib.hid hi
  have G1 := Lib.hid hz0
  have G2 := Lib.hid hz1
  have G3 := Lib.hid hz2
  clear hi hz0 hz1 hz2
  have h8 : n ≤ 8 := by have := hB.2.1; omega
  have hp8 : pw n ≤ 256 := by have := pw_mono h8; simpa [pw] using this
  have hp1 : 1 ≤ pw n := pw_pos n
  have K := Lib.hid (fun W hW => refIsBody_any q a n c ws W hW hl (by omega))
  rw [decide_eq_true hB] at K
  have V := Lib.hid (fun W hW s (hs : s < 65536) => refwins_any q a n c s ws W hW hl h8 hB.2.2.1 hs)
  have sh := wrap_shl (k := n) (by omega)
  have hpl := Lib.hid (fun d (hd : d < n) => (show pw d < pw n from pw_lt hd))
  have X := Lib.hid (Blk.new w 24 #[.int .i64 q, .slice a n c])
  obtain ⟨N, hN⟩ : ∃ N, Hid (pw n = N) := ⟨_, Lib.hid rfl⟩
  rw [hN.out] at hp8 hp1 sh hpl ⊢
  generalize winB q ws = f at *
  have h := Lib.hid h
  clear hl hB
  go_enter Try.func23, Try.ntmps23
  go_wp2_with (go_at_call 41; refine (K.out _ (h.out.next (b1 _ _))).mono ?_; rintro e w1 ⟨rfl, hb1⟩)
  have X1 := X.out.ext hb1
  have B1 := nextB (b1 w (.cells #[.int .i64 q, .slice a n c] 24)) hb1
  clear hb1
  go_loopw [4, 5, 6, 7] (fun v s _ _ wr => ∃ k : Nat, k ≤ n ∧ s = .int .i64 k ∧ wr.ownsRow w.heap.size 3 1 v (listI (turnI f N) k).length (lI (listI (turnI f N) k)) ∧ Blk wr w.heap.size 24 #[.int .i64 q, .slice a n c] ∧ Below w.heap.size w wr) (fun _ s _ _ _ => n - (intOf s).toNat)
  case atStart => exact ⟨0, by omega, rfl, World.ownsRow_nil _ _ _ _, X1, B1⟩
  case round =>
    clear X1 B1
    obtain ⟨d, hk, rfl, hown, X1, B1⟩ := hrel
    have x0 := X1.c 0 rfl
    have x1 := X1.c 1 rfl
    obtain ⟨r, rc, rfl, hrc, hI⟩ := own_intsA hown rfl
    replace hI := Lib.hid hI
    by_cases hlt : d < n
    · clear hrc hI
      have hki : (d : Int) < (n : Int) := by omega
      have hst := Lib.hid (listI_succ (turnI f N) d)
      have htv : Hid (turnI f N d = ((cnt (turnB f d) N : Nat) : Int)) := Lib.hid rfl
      have hlk := Lib.hid (listI_length (turnI f N) d)
      have hcs := Lib.hid (fun j => (show cnt (turnB f d) (j + 1) = cnt (turnB f d) j + if turnB f d j then 1 else 0 from rfl))
      have hcl := Lib.hid (cnt_le (turnB f d))
      have hc0 : Hid (cnt (turnB f d) 0 = 0) := Lib.hid rfl
      have hpd := hpl.out d hlt
      have shj : IntKind.i64.wrap ((2 : Int) ^ d) = ((pw d : Nat) : Int) := by rw [pw_int]; exact wrap_pw (by omega)
      generalize listI (turnI f N) d = L at *
      replace hown := Lib.hid hown
      go_wp2
      go_loopw [6, 7] (fun cm i wr => ∃ j : Nat, j ≤ N ∧ i = .int .i64 j ∧ cm = .int .i64 ((cnt (turnB f d) j : Nat) : Int) ∧ wr.ownsRow w.heap.size 3 1 (.slice r L.length rc) L.length (lI L) ∧ Blk wr w.heap.size 24 #[.int .i64 q, .slice a n c] ∧ Below w.heap.size w wr) (fun _ i _ => N - (intOf i).toNat)
      case atStart => exact ⟨0, by omega, rfl, by rw [hc0.out]; rfl, hown.out, X1, B1⟩
      case round =>
        clear X1 B1 hown
        obtain ⟨j, hj, rfl, rfl, hown, X1, B1⟩ := hrel
        have x0 := X1.c 0 rfl
        have x1 := X1.c 1 rfl
        replace X1 := Lib.hid X1
        have hcsj := Lib.hid (hcs.out j)
        have hclj := hcl.out j
        by_cases hjn : j < N
        · have hji : (j : Int) < (N : Int) := by omega
          have hd : decide (j < N) = true := decide_eq_true hjn
          replace hown := Lib.hid hown
          have hbt := bt_int j d
          have y0 := cellX x0
          have y1 := cellX x1
          have hadd : IntKind.i64.wrap ((j : Int) + ((pw d : Nat) : Int)) = ((j + pw d : Nat) : Int) := by rw [IntWalk.i64_in _ (by omega)]; omega
          have V1 := Lib.hid (fun W hW => V.out W hW j (by omega))
          have V2 := Lib.hid (fun W hW => V.out W hW (j + pw d) (by omega))
          have ht : Hid (turnB f d j = (!(j.testBit d) && !(f j) && f (j + pw d))) := Lib.hid rfl
          obtain ⟨u, hu⟩ : ∃ u, Hid (j + pw d = u) := ⟨_, Lib.hid rfl⟩
          rw [hu.out] at hadd V2 ht
          obtain ⟨cj, hcc⟩ : ∃ cj, Hid (cnt (turnB f d) j = cj) := ⟨_, Lib.hid rfl⟩
          rw [hcc.out] at hcsj hclj ⊢
          cases hb : j.testBit d
          · rw [bt_zero.2 hb] at hbt
            rw [ht.out, hb] at hcsj
            replace hb := Lib.hid hb
            cases g1 : f j
            · rw [g1] at V1 hcsj
              replace g1 := Lib.hid g1
              cases g2 : f u
              all_goals
                rw [g2] at V2 hcsj
                replace g2 := Lib.hid g2
                go_wp2
                refine wp_region_ext (by kernel_rfl) (by kernel_rfl) ?_
                repeat (go_big_quiet_step (first | (go_at_call 45; with_reducible exact callE (V1.out _ ((h.out.next B1).next (Ext.ok _)))) | (go_at_call 45; with_reducible exact callE (V2.out _ ((h.out.next B1).next (Ext.ok _))))))
                refine wpQuiet_nil ?_
                rintro ⟨w4, hw4⟩
                dsimp only
                clear y0 y1
                have hown3 := Lib.hid (owns_next hown.out hw4)
                have X3 := Lib.hid (X1.out.ext hw4)
                go_wp2
                go_roundw
                case rel => exact ⟨j + 1, by omega, by go_num, by rw [hcsj.out]; go_num, hown3.out, X3.out, nextB B1 hw4⟩
                case measure => simp [intOf]; omega
            · rw [g1] at V1 hcsj
              replace g1 := Lib.hid g1
              go_wp2
              refine wp_region_ext (by kernel_rfl) (by kernel_rfl) ?_
              repeat (go_big_quiet_step ((go_at_call 45; with_reducible exact callE (V1.out _ ((h.out.next B1).next (Ext.ok _))))))
              refine wpQuiet_nil ?_
              rintro ⟨w4, hw4⟩
              dsimp only
              clear y0 y1
              have hown3 := Lib.hid (owns_next hown.out hw4)
              have X3 := Lib.hid (X1.out.ext hw4)
              go_wp2
              go_roundw
              case rel => exact ⟨j + 1, by omega, by go_num, by rw [hcsj.out]; go_num, hown3.out, X3.out, nextB B1 hw4⟩
              case measure => simp [intOf]; omega
          · rw [bt_one.2 hb] at hbt
            rw [ht.out, hb] at hcsj
            replace hb := Lib.hid hb
            go_wp2
            refine wp_region_ext (by kernel_rfl) (by kernel_rfl) ?_
            repeat (go_big_quiet_step (fail))
            refine wpQuiet_nil ?_
            rintro ⟨w4, hw4⟩
            dsimp only
            clear y0 y1
            have hown3 := Lib.hid (owns_next hown.out hw4)
            have X3 := Lib.hid (X1.out.ext hw4)
            go_wp2
            go_roundw
            case rel => exact ⟨j + 1, by omega, by go_num, by rw [hcsj.out]; go_num, hown3.out, X3.out, nextB B1 hw4⟩
            case measure => simp [intOf]; omega
        · obtain rfl : j = N := by omega
          have hd : decide (j < j) = false := decide_eq_false hjn
          have hcv := htv.out
          obtain ⟨tv, htw⟩ : ∃ tv, Hid (turnI f j d = tv) := ⟨_, Lib.hid rfl⟩
          rw [htw.out] at hcv hst
          rw [hcv.symm] at *
          have hL2 := hlk.out
          clear hclj hcsj
          go_wp2_with (at_builtin; refine wpList_append_own _ rfl _ _ 22 rfl w.heap.size 3 i0 (.int .i64 0) 1 8 Try.underlying22 G0.out G1.out G2.out G3.out rfl (by decide) _ _ _ rfl (hown.alloc _) ⟨_, 0, none⟩ 1 1 [.int .i64 tv] rfl rfl (cell_one_new _ _ _) (by simp [Value.oneCell']) (by unfold maxLen; omega) (by omega) (by have := B1.size; simp; omega) ?_; intro v' w2 hown2 hgrow _)
          have hsz := B1.size
          have B2 := (B1.alloc hsz _).grown hgrow (by simp; omega) (fun q hq => by have := (hown.lt q hq).1; omega)
          have hvb : (Value.slice r L.length rc).ownBlock ≠ some w.heap.size := fun e => by
            have h1 := X1.out
            rcases hown.2 with ⟨e1, _⟩ | ⟨g', cap, cur, e1, _, hg, _⟩
            · rw [e1] at e; simp [Value.ownBlock] at e
            · rw [e1] at e
              simp [Value.ownBlock] at e
              subst e
              have := h1.symm.trans hg
              simp at this
          have X3 := (X1.out.alloc (.cells #[.int .i64 tv] 3)).grown hgrow (Ne.symm hvb)
          go_roundw
          case rel => exact ⟨d + 1, by omega, by go_num, by rw [hst.out, List.length_append, lI_snoc]; exact hown2, X3, B2⟩
          case measure => simp [intOf]; omega
    · obtain rfl : d = n := by omega
      replace hown := Lib.hid hown
      go_wp2_with fail
      go_ret2
      exact ⟨r, rc, rfl, hrc, hI.out, B1⟩
end Go.Proofs.Ytnnndooagpkgmaa
