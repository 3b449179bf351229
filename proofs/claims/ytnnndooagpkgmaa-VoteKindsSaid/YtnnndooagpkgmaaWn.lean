/- Layer 3, by the specification: Same. -/
import Derived.Test.YtnnndooagpkgmaaWm
namespace Go.Proofs.Ytnnndooagpkgmaa
open Go Go.RowKit

section
variable (q p : Int) (a b : Option Addr) (n c m d : Nat) (ws vs : List Int) (w : World)
theorem refSame_no1 (h : Ints w a ws) (hl : ws.length = n) (hn : n ≤ 30) (hB : ¬ BodyP q ws) :
    Calls Try.prog 29 #[bodyV q a n c, bodyV p b m d] w (Ret (errV (.bool false)) w) := by
  have K := Lib.hid (fun W hW => refIsBody_any q a n c ws W hW hl (by omega))
  rw [decide_eq_false hB] at K
  have h := Lib.hid h
  clear hl hB
  go_enter Try.func29, Try.ntmps29
  go_wp2_with (go_at_call 41; refine (K.out _ (h.out.next (b2 _ _ _))).mono ?_; rintro e w1 ⟨rfl, hb1⟩)
  go_ret2
  exact Ret.mk rfl (nextB (b2 _ _ _) hb1)
theorem refSame_no2 (h : Ints w a ws) (hl : ws.length = n) (h' : Ints w b vs) (hl' : vs.length = m) (hn : n ≤ 30) (hm : m ≤ 30) (hB : BodyP q ws) (hB2 : ¬ BodyP p vs) :
    Calls Try.prog 29 #[bodyV q a n c, bodyV p b m d] w (Ret (errV (.bool false)) w) := by
  have K := Lib.hid (fun W hW => refIsBody_any q a n c ws W hW hl (by omega))
  have K2 := Lib.hid (fun W hW => refIsBody_any p b m d vs W hW hl' (by omega))
  rw [decide_eq_true hB] at K
  rw [decide_eq_false hB2] at K2
  have X := Lib.hid (two_box w #[.int .i64 q, .slice a n c] #[.int .i64 p, .slice b m d] 24 24)
  have h := Lib.hid h
  have h' := Lib.hid h'
  clear hl hB hl' hB2
  go_enter Try.func29, Try.ntmps29
  go_wp2_with (first
    | (go_at_call 41; (with_reducible refine (K.out _ (h.out.next (b2 _ _ _))).mono ?_); rintro e w1 ⟨rfl, hb1⟩; have Y := X.out.ext hb1; have y0 := Y.c 0 rfl; have y1 := Y.c 1 rfl; have y2 := Y.lt; replace Y := Lib.hid Y)
    | (go_at_call 41; (with_reducible refine (K2.out _ (h'.out.next (nextB (b2 _ _ _) hb1))).mono ?_); rintro e w2 ⟨rfl, hb2⟩))
  go_ret2
  exact Ret.mk rfl (nextB (b2 _ _ _) (nextB hb1 hb2))
theorem refSame_len (h : Ints w a ws) (hl : ws.length = n) (h' : Ints w b vs) (hl' : vs.length = m) (hB : BodyP q ws) (hB2 : BodyP p vs) (hnm : n ≠ m) :
    Calls Try.prog 29 #[bodyV q a n c, bodyV p b m d] w (Ret (.tuple #[.bool false, .int .i64 0]) w) := by
  have h8 : n ≤ 8 := by have := hB.2.1; omega
  have h9 : m ≤ 8 := by have := hB2.2.1; omega
  have K := Lib.hid (fun W hW => refIsBody_any q a n c ws W hW hl (by omega))
  have K2 := Lib.hid (fun W hW => refIsBody_any p b m d vs W hW hl' (by omega))
  rw [decide_eq_true hB] at K
  rw [decide_eq_true hB2] at K2
  have X := Lib.hid (two_box w #[.int .i64 q, .slice a n c] #[.int .i64 p, .slice b m d] 24 24)
  have U := Lib.hid ((Blk.new w 24 #[.int .i64 q, .slice a n c]).alloc (.cells #[.int .i64 p, .slice b m d] 24))
  have hne : ((n : Int) != (m : Int)) = true := by rw [bne_iff_ne]; omega
  have h := Lib.hid h
  have h' := Lib.hid h'
  clear hl hB hl' hB2
  go_enter Try.func29, Try.ntmps29
  go_wp2_with (first
    | (go_at_call 41; (with_reducible refine (K.out _ (h.out.next (b2 _ _ _))).mono ?_); rintro e w1 ⟨rfl, hb1⟩; have Y := X.out.ext hb1; have y0 := Y.c 0 rfl; have y1 := Y.c 1 rfl; have y2 := Y.lt; replace Y := Lib.hid Y; have Z := U.out.ext hb1; replace Z := Lib.hid Z)
    | (go_at_call 41; (with_reducible refine (K2.out _ (h'.out.next (nextB (b2 _ _ _) hb1))).mono ?_); rintro e w2 ⟨rfl, hb2⟩; have y0 := (Y.out.ext hb2).c 0 rfl; have y1 := (Y.out.ext hb2).c 1 rfl; have z0 := (Z.out.ext hb2).c 0 rfl; have z1 := (Z.out.ext hb2).c 1 rfl))
  go_ret2
  exact Ret.mk rfl (nextB (b2 _ _ _) (nextB hb1 hb2))
set_option maxRecDepth 100000 in
set_option maxHeartbeats 8000000 in
theorem refSame_eq (h : Ints w a ws) (hl : ws.length = n) (h' : Ints w b vs) (hl' : vs.length = n) (hB : BodyP q ws) (hB2 : BodyP p vs) :
    Calls Try.prog 29 #[bodyV q a n c, bodyV p b n d] w (Ret (.tuple #[.bool (decide (sameB (winB q ws) (winB p vs) (pw n))), .int .i64 0]) w) := by
  have h8 : n ≤ 8 := by have := hB.2.1; omega
  have hp8 : pw n ≤ 256 := by have := pw_mono h8; simpa [pw] using this
  have K := Lib.hid (fun W hW => refIsBody_any q a n c ws W hW hl (by omega))
  have K2 := Lib.hid (fun W hW => refIsBody_any p b n d vs W hW hl' (by omega))
  rw [decide_eq_true hB] at K
  rw [decide_eq_true hB2] at K2
  have V := Lib.hid (fun W hW s (hs : s < 65536) => refwins_any q a n c s ws W hW hl h8 hB.2.2.1 hs)
  have V' := Lib.hid (fun W hW s (hs : s < 65536) => refwins_any p b n d s vs W hW hl' h8 hB2.2.2.1 hs)
  have sh := wrap_shl (k := n) (by omega)
  have X := Lib.hid (two_box w #[.int .i64 q, .slice a n c] #[.int .i64 p, .slice b n d] 24 24)
  have U := Lib.hid ((Blk.new w 24 #[.int .i64 q, .slice a n c]).alloc (.cells #[.int .i64 p, .slice b n d] 24))
  have hne : ((n : Int) != (n : Int)) = false := by simp
  obtain ⟨N, hN⟩ : ∃ N, Hid (pw n = N) := ⟨_, Lib.hid rfl⟩
  rw [hN.out] at hp8 sh ⊢
  generalize winB q ws = f at *
  generalize winB p vs = g at *
  have h := Lib.hid h
  have h' := Lib.hid h'
  clear hl hB hl' hB2
  go_enter Try.func29, Try.ntmps29
  go_wp2_with (first
    | (go_at_call 41; (with_reducible refine (K.out _ (h.out.next (b2 _ _ _))).mono ?_); rintro e w1 ⟨rfl, hb1⟩; have Y := X.out.ext hb1; have y0 := Y.c 0 rfl; have y1 := Y.c 1 rfl; have y2 := Y.lt; replace Y := Lib.hid Y; have Z := U.out.ext hb1; replace Z := Lib.hid Z)
    | (go_at_call 41; (with_reducible refine (K2.out _ (h'.out.next (nextB (b2 _ _ _) hb1))).mono ?_); rintro e w2 ⟨rfl, hb2⟩; replace Y := Lib.hid (Y.out.ext hb2); replace Z := Lib.hid (Z.out.ext hb2); clear y0 y1 y2; have y0 := Y.out.c 0 rfl; have y1 := Y.out.c 1 rfl; have z0 := Z.out.c 0 rfl; have z1 := Z.out.c 1 rfl))
  have B1 := nextB (b2 w (.cells #[.int .i64 q, .slice a n c] 24) (.cells #[.int .i64 p, .slice b n d] 24)) (nextB hb1 hb2)
  clear hb1 hb2 y0 y1 z0 z1
  go_loopw [6] (fun i wr => ∃ k : Nat, k ≤ N ∧ i = .int .i64 k ∧ sameB f g k ∧ Blk wr w.heap.size 24 #[.int .i64 q, .slice a n c] ∧ Blk wr (w.heap.size + 1) 24 #[.int .i64 p, .slice b n d] ∧ Below w.heap.size w wr) (fun i _ => N - (intOf i).toNat)
  case atStart => exact ⟨0, by omega, rfl, fun i hi => absurd hi (by omega), Z.out, Y.out, B1⟩
  case round =>
    clear B1 Y Z
    obtain ⟨k, hk, rfl, hs, Z, Y, B1⟩ := hrel
    have y0 := Y.c 0 rfl
    have y1 := Y.c 1 rfl
    have z0 := Z.c 0 rfl
    have z1 := Z.c 1 rfl
    replace Z := Lib.hid Z
    replace Y := Lib.hid Y
    replace hs := Lib.hid hs
    by_cases hlt : k < N
    · have hki : (k : Int) < (N : Int) := by omega
      have V1 := Lib.hid (fun W hW => V.out W hW k (by omega))
      have V2 := Lib.hid (fun W hW => V'.out W hW k (by omega))
      have hyes : Hid (f k = g k → sameB f g (k + 1)) := Lib.hid (fun e => lt_succ_all hs.out e)
      have hno : Hid (f k ≠ g k → decide (sameB f g N) = false) := Lib.hid (fun e => decide_eq_false fun hh => e (hh k hlt))
      cases g1 : f k
      · cases g2 : g k
        · rw [g1] at V1 hyes hno
          rw [g2] at V2 hyes hno
          replace g1 := Lib.hid g1
          replace g2 := Lib.hid g2
          have p0 := cellX y0
          have p1 := cellX y1
          have r0 := cellX z0
          have r1 := cellX z1
          go_wp2
          refine wp_region_ext (by kernel_rfl) (by kernel_rfl) ?_
          repeat (go_big_quiet_step (first
            | (go_at_call 45; with_reducible exact callE (V1.out _ ((h.out.next B1).next (Ext.ok _))))
            | (go_at_call 45; with_reducible exact callE (V2.out _ ((h'.out.next B1).next (Ext.ok _))))))
          refine wpQuiet_nil ?_
          rintro ⟨w3, hb3⟩
          dsimp only
          clear p0 p1 r0 r1
          go_wp2
          go_roundw
          case rel => exact ⟨k + 1, by omega, by go_num, hyes.out (by trivial), Z.out.ext hb3, Y.out.ext hb3, nextB B1 hb3⟩
          case measure => simp [intOf]; omega
        · rw [g1] at V1 hyes hno
          rw [g2] at V2 hyes hno
          replace g1 := Lib.hid g1
          replace g2 := Lib.hid g2
          have p0 := cellX y0
          have p1 := cellX y1
          have r0 := cellX z0
          have r1 := cellX z1
          go_wp2
          refine wp_region_ext (by kernel_rfl) (by kernel_rfl) ?_
          repeat (go_big_quiet_step (first
            | (go_at_call 45; with_reducible exact callE (V1.out _ ((h.out.next B1).next (Ext.ok _))))
            | (go_at_call 45; with_reducible exact callE (V2.out _ ((h'.out.next B1).next (Ext.ok _))))))
          refine wpQuiet_nil ?_
          rintro ⟨w3, hb3⟩
          dsimp only
          clear p0 p1 r0 r1
          go_wp2
          go_ret2
          exact Ret.mk (show Value.tuple #[.bool false, .int .i64 0] = _ by rw [hno.out (by decide)]) (nextB B1 hb3)
      · cases g2 : g k
        · rw [g1] at V1 hyes hno
          rw [g2] at V2 hyes hno
          replace g1 := Lib.hid g1
          replace g2 := Lib.hid g2
          have p0 := cellX y0
          have p1 := cellX y1
          have r0 := cellX z0
          have r1 := cellX z1
          go_wp2
          refine wp_region_ext (by kernel_rfl) (by kernel_rfl) ?_
          repeat (go_big_quiet_step (first
            | (go_at_call 45; with_reducible exact callE (V1.out _ ((h.out.next B1).next (Ext.ok _))))
            | (go_at_call 45; with_reducible exact callE (V2.out _ ((h'.out.next B1).next (Ext.ok _))))))
          refine wpQuiet_nil ?_
          rintro ⟨w3, hb3⟩
          dsimp only
          clear p0 p1 r0 r1
          go_wp2
          go_ret2
          exact Ret.mk (show Value.tuple #[.bool false, .int .i64 0] = _ by rw [hno.out (by decide)]) (nextB B1 hb3)
        · rw [g1] at V1 hyes hno
          rw [g2] at V2 hyes hno
          replace g1 := Lib.hid g1
          replace g2 := Lib.hid g2
          have p0 := cellX y0
          have p1 := cellX y1
          have r0 := cellX z0
          have r1 := cellX z1
          go_wp2
          refine wp_region_ext (by kernel_rfl) (by kernel_rfl) ?_
          repeat (go_big_quiet_step (first
            | (go_at_call 45; with_reducible exact callE (V1.out _ ((h.out.next B1).next (Ext.ok _))))
            | (go_at_call 45; with_reducible exact callE (V2.out _ ((h'.out.next B1).next (Ext.ok _))))))
          refine wpQuiet_nil ?_
          rintro ⟨w3, hb3⟩
          dsimp only
          clear p0 p1 r0 r1
          go_wp2
          go_roundw
          case rel => exact ⟨k + 1, by omega, by go_num, hyes.out (by trivial), Z.out.ext hb3, Y.out.ext hb3, nextB B1 hb3⟩
          case measure => simp [intOf]; omega
    · obtain rfl : k = N := by omega
      have hR : Hid (decide (sameB f g k) = true) := Lib.hid (decide_eq_true hs.out)
      go_wp2_with fail
      go_ret2
      exact Ret.mk (show Value.tuple #[.bool true, .int .i64 0] = _ by rw [hR.out]) B1
end
end Go.Proofs.Ytnnndooagpkgmaa
