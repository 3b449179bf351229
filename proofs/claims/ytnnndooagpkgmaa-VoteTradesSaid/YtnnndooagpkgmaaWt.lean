/- Layer 3, by the specification: isTrade. -/
import Derived.Test.YtnnndooagpkgmaaWs
import Derived.Test.YtnnndooagpkgmaaWk
namespace Go.Proofs.Ytnnndooagpkgmaa
open Go Go.RowKit

set_option maxRecDepth 100000 in
set_option maxHeartbeats 8000000 in
theorem refisTrade_any (q : Option Addr) (m k n a b c d : Nat) (R : List Int) (w : World) (h : Ints w q R) (hl : R.length = m) (hm : m ≤ 1000) (hR : RuleP n R) (ha : a < pw n) (hb : b < pw n) (hc : c < pw n) (hd : d < pw n) :
    Calls Try.prog 63 #[.slice q m k, quadV (a : Nat) (b : Nat) (c : Nat) (d : Nat)] w (Ret (.bool (tradeB (hasOne R) a b c d)) w) := by
  have V1 := Lib.hid (fun W hW => ruled_at q n k m R W hW hl hm hR a ha)
  have V2 := Lib.hid (fun W hW => ruled_at q n k m R W hW hl hm hR b hb)
  have V3 := Lib.hid (fun W hW => ruled_at q n k m R W hW hl hm hR c hc)
  have V4 := Lib.hid (fun W hW => ruled_at q n k m R W hW hl hm hR d hd)
  have hp8 : pw n ≤ 256 := by have := pw_mono (show n ≤ 8 by have := hR.2.1; omega); simpa [pw] using this
  have T1 := Lib.hid (fun W => both_any a b W (by omega) (by omega))
  have T2 := Lib.hid (fun W => both_any c d W (by omega) (by omega))
  have hT : Hid (tradeB (hasOne R) a b c d = (hasOne R a && hasOne R b && !(hasOne R c) && !(hasOne R d) && (twoM a b 5 == twoM c d 5))) := Lib.hid (by
    rw [twoM_trade ha hb hc hd hR.2.1]
    unfold tradeB
    rw [Bool.and_assoc])
  have e5 := beq_nat (twoM a b 5) (twoM c d 5)
  have X := Lib.hid (Blk.new w 49 #[.int .i64 (a : Nat), .int .i64 (b : Nat), .int .i64 (c : Nat), .int .i64 (d : Nat)])
  generalize hasOne R = P at *
  have h := Lib.hid h
  clear hl hm hR ha hb hc hd hp8
  cases g1 : P a
  · rw [g1] at V1 hT
    replace g1 := Lib.hid g1
    go_enter Try.func63, Try.ntmps63
    have B0 := b1 w (.cells #[.int .i64 (a : Nat), .int .i64 (b : Nat), .int .i64 (c : Nat), .int .i64 (d : Nat)] 49)
    have x0 := cellX (X.out.c 0 rfl)
    have x1 := cellX (X.out.c 1 rfl)
    have x2 := cellX (X.out.c 2 rfl)
    have x3 := cellX (X.out.c 3 rfl)
    go_wp2
    refine wp_region_ext (by kernel_rfl) (by kernel_rfl) ?_
    repeat (go_big_quiet_step ((go_at_call 57; with_reducible exact callE (V1.out _ ((h.out.next (b1 _ _)).next (Ext.ok _))))))
    refine wpQuiet_nil ?_
    rintro ⟨w1, hw1⟩
    dsimp only
    clear x0 x1 x2 x3
    go_wp2
    go_ret
    exact Ret.mk (show Value.bool _ = _ by rw [hT.out]; first | done | rfl) (nextB B0 hw1)
  · rw [g1] at V1 hT
    replace g1 := Lib.hid g1
    cases g2 : P b
    · rw [g2] at V2 hT
      replace g2 := Lib.hid g2
      go_enter Try.func63, Try.ntmps63
      have B0 := b1 w (.cells #[.int .i64 (a : Nat), .int .i64 (b : Nat), .int .i64 (c : Nat), .int .i64 (d : Nat)] 49)
      have x0 := cellX (X.out.c 0 rfl)
      have x1 := cellX (X.out.c 1 rfl)
      have x2 := cellX (X.out.c 2 rfl)
      have x3 := cellX (X.out.c 3 rfl)
      go_wp2
      refine wp_region_ext (by kernel_rfl) (by kernel_rfl) ?_
      repeat (go_big_quiet_step (first | (go_at_call 57; with_reducible exact callE (V1.out _ ((h.out.next (b1 _ _)).next (Ext.ok _)))) | (go_at_call 57; with_reducible exact callE (V2.out _ ((h.out.next (b1 _ _)).next (Ext.ok _))))))
      refine wpQuiet_nil ?_
      rintro ⟨w1, hw1⟩
      dsimp only
      clear x0 x1 x2 x3
      go_wp2
      go_ret
      exact Ret.mk (show Value.bool _ = _ by rw [hT.out]; first | done | rfl) (nextB B0 hw1)
    · rw [g2] at V2 hT
      replace g2 := Lib.hid g2
      cases g3 : P c
      · rw [g3] at V3 hT
        replace g3 := Lib.hid g3
        cases g4 : P d
        · rw [g4] at V4 hT
          replace g4 := Lib.hid g4
          cases g5 : (twoM a b 5 == twoM c d 5)
          all_goals
            rw [g5] at hT e5
            replace g5 := Lib.hid g5
            generalize twoM a b 5 = p at *
            generalize twoM c d 5 = r at *
            go_enter Try.func63, Try.ntmps63
            have B0 := b1 w (.cells #[.int .i64 (a : Nat), .int .i64 (b : Nat), .int .i64 (c : Nat), .int .i64 (d : Nat)] 49)
            have x0 := cellX (X.out.c 0 rfl)
            have x1 := cellX (X.out.c 1 rfl)
            have x2 := cellX (X.out.c 2 rfl)
            have x3 := cellX (X.out.c 3 rfl)
            go_wp2
            refine wp_region_ext (by kernel_rfl) (by kernel_rfl) ?_
            repeat (go_big_quiet_step (first | (go_at_call 57; with_reducible exact callE (V1.out _ ((h.out.next (b1 _ _)).next (Ext.ok _)))) | (go_at_call 57; with_reducible exact callE (V2.out _ ((h.out.next (b1 _ _)).next (Ext.ok _)))) | (go_at_call 57; with_reducible exact callE (V3.out _ ((h.out.next (b1 _ _)).next (Ext.ok _)))) | (go_at_call 57; with_reducible exact callE (V4.out _ ((h.out.next (b1 _ _)).next (Ext.ok _)))) | (go_at_call 77; with_reducible exact callE (T1.out _)) | (go_at_call 77; with_reducible exact callE (T2.out _))))
            refine wpQuiet_nil ?_
            rintro ⟨w1, hw1⟩
            dsimp only
            clear x0 x1 x2 x3
            go_wp2
            go_ret
            exact Ret.mk (show Value.bool _ = _ by rw [hT.out]; first | done | rfl) (nextB B0 hw1)
        · rw [g4] at V4 hT
          replace g4 := Lib.hid g4
          go_enter Try.func63, Try.ntmps63
          have B0 := b1 w (.cells #[.int .i64 (a : Nat), .int .i64 (b : Nat), .int .i64 (c : Nat), .int .i64 (d : Nat)] 49)
          have x0 := cellX (X.out.c 0 rfl)
          have x1 := cellX (X.out.c 1 rfl)
          have x2 := cellX (X.out.c 2 rfl)
          have x3 := cellX (X.out.c 3 rfl)
          go_wp2
          refine wp_region_ext (by kernel_rfl) (by kernel_rfl) ?_
          repeat (go_big_quiet_step (first | (go_at_call 57; with_reducible exact callE (V1.out _ ((h.out.next (b1 _ _)).next (Ext.ok _)))) | (go_at_call 57; with_reducible exact callE (V2.out _ ((h.out.next (b1 _ _)).next (Ext.ok _)))) | (go_at_call 57; with_reducible exact callE (V3.out _ ((h.out.next (b1 _ _)).next (Ext.ok _)))) | (go_at_call 57; with_reducible exact callE (V4.out _ ((h.out.next (b1 _ _)).next (Ext.ok _))))))
          refine wpQuiet_nil ?_
          rintro ⟨w1, hw1⟩
          dsimp only
          clear x0 x1 x2 x3
          go_wp2
          go_ret
          exact Ret.mk (show Value.bool _ = _ by rw [hT.out]; first | done | rfl) (nextB B0 hw1)
      · rw [g3] at V3 hT
        replace g3 := Lib.hid g3
        go_enter Try.func63, Try.ntmps63
        have B0 := b1 w (.cells #[.int .i64 (a : Nat), .int .i64 (b : Nat), .int .i64 (c : Nat), .int .i64 (d : Nat)] 49)
        have x0 := cellX (X.out.c 0 rfl)
        have x1 := cellX (X.out.c 1 rfl)
        have x2 := cellX (X.out.c 2 rfl)
        have x3 := cellX (X.out.c 3 rfl)
        go_wp2
        refine wp_region_ext (by kernel_rfl) (by kernel_rfl) ?_
        repeat (go_big_quiet_step (first | (go_at_call 57; with_reducible exact callE (V1.out _ ((h.out.next (b1 _ _)).next (Ext.ok _)))) | (go_at_call 57; with_reducible exact callE (V2.out _ ((h.out.next (b1 _ _)).next (Ext.ok _)))) | (go_at_call 57; with_reducible exact callE (V3.out _ ((h.out.next (b1 _ _)).next (Ext.ok _))))))
        refine wpQuiet_nil ?_
        rintro ⟨w1, hw1⟩
        dsimp only
        clear x0 x1 x2 x3
        go_wp2
        go_ret
        exact Ret.mk (show Value.bool _ = _ by rw [hT.out]; first | done | rfl) (nextB B0 hw1)
end Go.Proofs.Ytnnndooagpkgmaa
