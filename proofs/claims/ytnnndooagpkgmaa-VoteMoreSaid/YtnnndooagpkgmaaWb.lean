/- Layer 3: what every right program knows of three drovers. -/
import Derived.Test.YtnnndooagpkgmaaWa
namespace Go.Proofs.Ytnnndooagpkgmaa
open Go Go.RowKit

theorem rats_zero {w : World} {a : Option Addr} {x : Nat → Int × Int} {n : Nat} (h : Rats w a x n) (hn : 0 < n) : ∃ b off, a = some ⟨b, off, none⟩ ∧ w.cell? ⟨b, off, none⟩ = some (.int .i64 (x 0).1) ∧ w.cell? ⟨b, off + 1, none⟩ = some (.int .i64 (x 0).2) := by
  rcases h with h | ⟨b, off, e, hc⟩
  · omega
  · obtain ⟨h1, h2⟩ := hc 0 hn
    simp only [Nat.zero_mul, Nat.add_zero] at h1 h2
    exact ⟨b, off, e, h1, h2⟩
theorem alive_least (a : Option Addr) (w : World) (h : Ints w a [2, 1, 1]) : Calls Try.prog 19 #[bodyV 3 a 3 3] w (fun e w' => ∃ r c, e = .returned (.tuple #[.slice r 2 c, .int .i64 0]) ∧ Ints w' r [3, 5] ∧ Below w.heap.size w w') := by
  have := Least_yes 3 a 3 3 [2, 1, 1] w h rfl body_three
  rw [least_three] at this
  exact this.mono fun e w' ⟨r, c, he, hc, hI, hb⟩ => ⟨r, c, he, hI, hb⟩
theorem alive_turns (a : Option Addr) (w : World) (h : Ints w a [2, 1, 1]) : Calls Try.prog 22 #[bodyV 3 a 3 3] w (fun e w' => ∃ r c, e = .returned (.tuple #[.slice r 3 c, .int .i64 0]) ∧ Ints w' r [3, 1, 1] ∧ Below w.heap.size w w') := by
  have := Turns_yes 3 a 3 3 [2, 1, 1] w h rfl body_three
  rw [turns_three] at this
  exact this.mono fun e w' ⟨r, c, he, hc, hI, hb⟩ => ⟨r, c, he, hI, hb⟩
theorem alive_power (a : Option Addr) (w : World) (h : Ints w a [2, 1, 1]) : Calls Try.prog 24 #[bodyV 3 a 3 3] w (fun e w' => ∃ b o c, e = .returned (.tuple #[.slice (some ⟨b, o, none⟩) 3 c, .int .i64 0]) ∧ w'.cell? ⟨b, o, none⟩ = some (.int .i64 2) ∧ w'.cell? ⟨b, o + 1, none⟩ = some (.int .i64 3) ∧ Below w.heap.size w w') := by
  have := Power_yes 3 a 3 3 [2, 1, 1] w h rfl body_three
  exact this.mono fun e w' ⟨r, c, he, hc, hI, hb⟩ => by
    obtain ⟨b, o, rfl, h1, h2⟩ := rats_zero hI (by omega)
    rw [power_three] at h1 h2
    exact ⟨b, o, c, he, h1, h2, hb⟩
theorem alive_trade (a : Option Addr) (w : World) (h : Ints w a [3, 12]) : Calls Try.prog 36 #[.int .i64 4, .slice a 2 2] w (Ret (.tuple #[quadV 3 12 5 10, .int .i64 0]) w) := by
  have := Trade_yes a 4 2 2 [3, 12] w (some (3, 12, 5)) h rfl (by omega) (by omega) rule_four trade_four
  have e : trV (some (3, 12, 5)) = quadV 3 12 5 10 := by
    show quadV _ _ _ (lastOf 3 12 5 : Nat) = _
    rw [last_four]
    rfl
  rw [e] at this
  exact this
theorem alive_weights (a : Option Addr) (w : World) (h : Ints w a [3, 5]) : Calls Try.prog 34 #[.int .i64 3, .slice a 2 2] w (fun e w' => ∃ G, e = .returned (.tuple #[.agg #[.int .i64 3, .slice (some ⟨G, 0, none⟩) 3 3], .int .i64 0]) ∧ Ints w' (some ⟨G, 0, none⟩) [2, 1, 1] ∧ Below w.heap.size w w') := by
  have := Weights_yes a 3 2 2 [3, 5] w none h rfl (by omega) (by omega) rule_three trade_three
  rw [weights_three] at this
  exact this.mono fun e w' ⟨hb, G, he, hl, hI⟩ => ⟨G, he, hI, hb⟩
theorem same_at (a b : Option Addr) (n c d : Nat) (xs : List Int) (w : World) (h : Ints w a xs) (h' : Ints w b xs) (hl : xs.length = n) (hn : n ≤ 1000) : Calls Try.prog 21 #[.slice a n c, .slice b n d] w (Ret (.bool true) w) := by
  have := same_any a b n n c d xs xs w h h' hl hl (by omega) (by omega)
  rw [decide_eq_true rfl] at this
  exact this
set_option maxRecDepth 100000 in
set_option maxHeartbeats 4000000 in
theorem alive_any (w : World) : Calls Try.prog 16 #[] w (Ret (.bool true) w) := by
  have q1 : eqP (2, 3) (2, 3) = true := by decide
  have q2 : eqQ 3 12 5 10 3 12 5 10 = true := by decide
  go_enter Try.func16, Try.ntmps16
  go_wp2_with fail
  refine (three_any _).mono ?_
  rintro e w1 ⟨a1, rfl, hI1, hb1⟩
  replace hI1 := Lib.hid hI1
  go_wp2_with fail
  refine (alive_least _ _ hI1.out).mono ?_
  rintro e w2 ⟨r1, c1, rfl, hL, hb2⟩
  replace hL := Lib.hid hL
  replace hb1 := nextB hb1 hb2
  clear hb2 hI1
  go_wp2_with fail
  refine (three_any _).mono ?_
  rintro e w3 ⟨a2, rfl, hI2, hb3⟩
  replace hI2 := Lib.hid hI2
  go_wp2_with fail
  refine (alive_turns _ _ hI2.out).mono ?_
  rintro e w4 ⟨r2, c2, rfl, hT, hb4⟩
  replace hT := Lib.hid hT
  replace hb3 := nextB hb3 hb4
  replace hL := Lib.hid (hL.out.next hb3)
  replace hb1 := nextB hb1 hb3
  clear hb3 hb4 hI2
  go_wp2_with fail
  refine (three_any _).mono ?_
  rintro e w5 ⟨a3, rfl, hI3, hb5⟩
  replace hI3 := Lib.hid hI3
  go_wp2_with fail
  refine (alive_power _ _ hI3.out).mono ?_
  rintro e w6 ⟨b3, o3, c3, rfl, p0, p1, hb6⟩
  replace hb5 := nextB hb5 hb6
  replace hL := Lib.hid (hL.out.next hb5)
  replace hT := Lib.hid (hT.out.next hb5)
  replace hb1 := nextB hb1 hb5
  clear hb5 hb6 hI3
  replace p0 := Lib.hid p0
  replace p1 := Lib.hid p1
  go_wp2_with fail
  have hl1 := lit_ints (xs := [3, 12]) (t := 3) (Blk.new w6 3 #[.int .i64 3, .int .i64 12])
  refine (alive_trade _ _ hl1).mono ?_
  clear hl1
  rintro e w7 ⟨rfl, hb7⟩
  replace hb7 := nextB (b1 w6 (.cells #[.int .i64 3, .int .i64 12] 3)) hb7
  replace hL := Lib.hid (hL.out.next hb7)
  replace hT := Lib.hid (hT.out.next hb7)
  replace hb1 := nextB hb1 hb7
  replace p0 := Lib.hid (cellB hb7 p0.out)
  replace p1 := Lib.hid (cellB hb7 p1.out)
  clear hb7
  go_wp2_with fail
  have hl1 := lit_ints (xs := [3, 5]) (t := 3) (two_box w7 #[.int .i64 3, .int .i64 12, .int .i64 5, .int .i64 10] #[.int .i64 3, .int .i64 5] 49 3)
  refine (alive_weights _ _ hl1).mono ?_
  clear hl1
  rintro e w8 ⟨G, rfl, hW, hb8⟩
  have hq := ((Blk.new w7 49 #[.int .i64 3, .int .i64 12, .int .i64 5, .int .i64 10]).alloc (.cells #[.int .i64 3, .int .i64 5] 3)).ext hb8
  replace hb8 := nextB (b2 w7 (.cells #[.int .i64 3, .int .i64 12, .int .i64 5, .int .i64 10] 49) (.cells #[.int .i64 3, .int .i64 5] 3)) hb8
  replace hL := Lib.hid (hL.out.next hb8)
  replace hT := Lib.hid (hT.out.next hb8)
  replace hb1 := nextB hb1 hb8
  replace p0 := Lib.hid (cellB hb8 p0.out)
  replace p1 := Lib.hid (cellB hb8 p1.out)
  replace hW := Lib.hid hW
  replace hq := Lib.hid hq
  clear hb8
  generalize w7.heap.size = z7 at *
  go_wp2_with fail
  have hz := two_box w8 #[.int .i64 3, .slice (some ⟨G, 0, none⟩) 3 3] #[.int .i64 3, .int .i64 5] 24 3
  have hy := (Blk.new w8 24 #[.int .i64 3, .slice (some ⟨G, 0, none⟩) 3 3]).alloc (.cells #[.int .i64 3, .int .i64 5] 3)
  have hbb := b2 w8 (.cells #[.int .i64 3, .slice (some ⟨G, 0, none⟩) 3 3] 24) (.cells #[.int .i64 3, .int .i64 5] 3)
  refine (same_at _ _ _ _ _ _ _ (hL.out.next hbb) (lit_ints (xs := [3, 5]) (t := 3) hz) rfl (by decide)).mono ?_
  rintro e w9 ⟨rfl, hb9⟩
  replace hy := Lib.hid (hy.ext hb9)
  replace hb9 := nextB hbb hb9
  clear hz hbb hL
  replace hT := Lib.hid (hT.out.next hb9)
  replace hb1 := nextB hb1 hb9
  replace p0 := Lib.hid (cellB hb9 p0.out)
  replace p1 := Lib.hid (cellB hb9 p1.out)
  replace hW := Lib.hid (hW.out.next hb9)
  replace hq := Lib.hid (hq.out.ext hb9)
  clear hb9
  generalize w8.heap.size = z8 at *
  go_wp2_with fail
  have hz := lit_ints (xs := [3, 1, 1]) (t := 3) (Blk.new w9 3 #[.int .i64 3, .int .i64 1, .int .i64 1])
  refine (same_at _ _ _ _ _ _ _ (hT.out.next (b1 _ _)) hz rfl (by decide)).mono ?_
  rintro e wa ⟨rfl, hba⟩
  replace hba := nextB (b1 w9 (.cells #[.int .i64 3, .int .i64 1, .int .i64 1] 3)) hba
  clear hz hT
  replace hb1 := nextB hb1 hba
  replace p0 := cellB hba p0.out
  replace p1 := cellB hba p1.out
  replace hW := Lib.hid (hW.out.next hba)
  replace hq := hq.out.ext hba
  replace hy := hy.out.ext hba
  clear hba
  have a0 := hq.c 0 rfl
  have a1 := hq.c 1 rfl
  have a2 := hq.c 2 rfl
  have a3 := hq.c 3 rfl
  have y0 := hy.c 0 rfl
  have y1 := hy.c 1 rfl
  replace hq := Lib.hid hq
  replace hy := Lib.hid hy
  go_wp2_with fail
  have hz := lit_ints (xs := [2, 1, 1]) (t := 3) (Blk.new wa 3 #[.int .i64 2, .int .i64 1, .int .i64 1])
  refine (same_at _ _ _ _ _ _ _ (hW.out.next (b1 _ _)) hz rfl (by decide)).mono ?_
  rintro e wb ⟨rfl, hbb⟩
  go_wp2_with fail
  go_ret
  exact Ret.mk rfl (nextB hb1 (nextB (b1 _ _) hbb))
end Go.Proofs.Ytnnndooagpkgmaa
