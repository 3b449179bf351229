/- Layer 3, by the specification: who wins by a body. -/
import Derived.Test.YtnnndooagpkgmaaWf
namespace Go.Proofs.Ytnnndooagpkgmaa
open Go Go.RowKit

/-- A drover's digit, in the walk's spelling. -/
theorem bt_int (s k : Nat) : ((s : Int) / (2 : Int) ^ k).tmod 2 = ((bt s k : Nat) : Int) := by
  rw [pw_int, ← Int.natCast_ediv, Int.tmod_eq_emod_of_nonneg (Int.natCast_nonneg _)]
  unfold bt
  exact (Int.natCast_emod _ _).symm
set_option maxRecDepth 100000 in
set_option maxHeartbeats 4000000 in
theorem refwins_any (q : Int) (a : Option Addr) (n c s : Nat) (ws : List Int) (w : World) (h : Ints w a ws) (hl : ws.length = n) (h8 : n ≤ 8) (hw : Wts ws) (_hs : s < 65536) :
    Calls Try.prog 45 #[bodyV q a n c, .int .i64 (s : Nat)] w (Ret (.bool (winB q ws s)) w) := by
  have hh : Hid (0 < n → ∃ b off, a = some ⟨b, off, none⟩ ∧ ∀ i, i < n → w.cell? ⟨b, off + i, none⟩ = some (.int .i64 (nth ws i))) := Lib.hid (fun h0 => by
    obtain ⟨b, off, e, hc⟩ := ints_at h (by omega)
    exact ⟨b, off, e, fun i hi => hc i (by omega)⟩)
  have hbd := Lib.hid (fun k (hk : k ≤ n) => wsum_bd hw s k (by omega))
  have hnx := Lib.hid (fun k (hk : k < n) => (show 0 ≤ nth ws k ∧ nth ws k ≤ 1000 from hw k (by omega)))
  have hwin : Hid (winB q ws s = decide (q ≤ wsum ws s n)) := Lib.hid (by unfold winB; rw [hl])
  clear h hl hw
  go_enter Try.func45, Try.ntmps45
  go_wp2
  have X0 := Blk.new w 24 #[.int .i64 q, .slice a n c]
  have hb := b1 w (.cells #[.int .i64 q, .slice a n c] 24)
  generalize w.alloc (.cells #[.int .i64 q, .slice a n c] 24) = W at *
  go_loopw [5, 6] (fun t i wr => ∃ k : Nat, k ≤ n ∧ i = .int .i64 k ∧ t = .int .i64 (wsum ws s k) ∧ Blk wr w.heap.size 24 #[.int .i64 q, .slice a n c] ∧ Below w.heap.size w wr) (fun _ i _ => n - (intOf i).toNat)
  case atStart => exact ⟨0, by omega, rfl, rfl, X0, hb⟩
  case round =>
    clear X0 hb
    obtain ⟨k, hk, rfl, rfl, X0, hb⟩ := hrel
    obtain ⟨t1, t2⟩ := hbd.out k hk
    have x0 := X0.c 0 rfl
    have x1 := X0.c 1 rfl
    by_cases hlt : k < n
    · obtain ⟨b, off, rfl, hcc⟩ := hh.out (by omega)
      have y0 := cellX (cellB hb (hcc k hlt))
      clear hcc
      have hki : (k : Int) < (n : Int) := by omega
      have z1 := cellX x1
      obtain ⟨v1, v2⟩ := hnx.out k hlt
      have hst := Lib.hid (show wsum ws s (k + 1) = wsum ws s k + nth ws k * (bt s k : Int) from rfl)
      have hbt := bt_int s k
      have hb2 := bt_lt s k
      generalize nth ws k = y at *
      generalize wsum ws s k = u at *
      rcases (show bt s k = 0 ∨ bt s k = 1 by omega) with hb3 | hb3
      all_goals
        rw [hb3] at hbt hst
        replace hb3 := Lib.hid hb3
        go_wp2
        refine wp_region_ext (by kernel_rfl) (by kernel_rfl) ?_
        repeat (go_big_quiet_step (fail))
        refine wpQuiet_nil ?_
        rintro ⟨w1, hw1⟩
        dsimp only
        clear y0 z1
        replace X0 := Lib.hid (X0.ext hw1)
        go_wp2
        go_roundw
        case rel => exact ⟨k + 1, by omega, by go_num, by rw [hst.out]; first | (simp; done) | rfl, X0.out, nextB hb hw1⟩
        case measure => simp [intOf]; omega
    · obtain rfl : k = n := by omega
      go_wp2
      go_ret
      exact Ret.mk (show Value.bool (decide (q ≤ wsum ws s k)) = _ by rw [hwin.out]) hb
end Go.Proofs.Ytnnndooagpkgmaa
