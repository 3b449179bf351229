/- VotePowers: Turns and Power return what the specification returns: the walk. -/
import Derived.Test.YtnnndooagpkgmaaWr
import Derived.Test.YtnnndooagpkgmaaWl
import Derived.Test.YtnnndooagpkgmaaLw
namespace Go.Proofs.Ytnnndooagpkgmaa
open Go Go.RowKit

/-- A list of ratios and an error were returned. -/
def PowC (k : Nat) (x : Nat → Int × Int) (ee : Int) (w : World) (e : Ending) (w' : World) : Prop := ∃ r rc, e = .returned (.tuple #[.slice r k rc, .int .i64 ee]) ∧ Rats w' r x k ∧ Below w.heap.size w w'
theorem rats_congr {w : World} {a : Option Addr} {x y : Nat → Int × Int} {n : Nat} (h : Rats w a x n) (e : ∀ i, i < n → x i = y i) : Rats w a y n := by
  rcases h with h | ⟨b, off, rfl, hc⟩
  · exact .inl h
  · exact .inr ⟨b, off, rfl, fun i hi => by rw [← e i hi]; exact hc i hi⟩
theorem rats_next {w w' : World} {a : Option Addr} {x : Nat → Int × Int} {n : Nat} (h : Rats w a x n) (hb : Below w.heap.size w w') : Rats w' a x n := by
  rcases h with h | ⟨b, off, rfl, hc⟩
  · exact .inl h
  · exact .inr ⟨b, off, rfl, fun i hi => ⟨cellB hb (hc i hi).1, cellB hb (hc i hi).2⟩⟩
theorem turns_pair (q : Int) (n : Nat) (ws : List Int) (hl : ws.length = n) (hn : n ≤ 30) : ∃ m L ee, L.length = m ∧ m ≤ 300 ∧
    (∀ a c W, Ints W a ws → Calls Try.prog 22 #[bodyV q a n c] W (LeastC m L ee W)) ∧
    (∀ a c W, Ints W a ws → Calls Try.prog 23 #[bodyV q a n c] W (LeastC m L ee W)) := by
  by_cases hB : BodyP q ws
  · refine ⟨_, listI (turnI (winB q ws) (pw n)) n, 0, rfl, by rw [listI_length]; omega, fun a c W h => ?_, fun a c W h => ?_⟩
    · exact (Turns_yes q a n c ws W h hl hB).mono fun e w' ⟨r, rc, he, _, hI, hb⟩ => ⟨r, rc, he, hI, hb⟩
    · exact (refTurns_yes q a n c ws W h hl hB).mono fun e w' ⟨r, rc, he, _, hI, hb⟩ => ⟨r, rc, he, hI, hb⟩
  · refine ⟨0, [], 2, rfl, by omega, fun a c W h => ?_, fun a c W h => ?_⟩
    · exact (Turns_no q a n c ws W h hl hB).mono fun e w' ⟨he, hb⟩ => ⟨none, 0, he, .inl rfl, hb⟩
    · exact (refTurns_no q a n c ws W h hl hn hB).mono fun e w' ⟨he, hb⟩ => ⟨none, 0, he, .inl rfl, hb⟩
theorem power_pair (q : Int) (n : Nat) (ws : List Int) (hl : ws.length = n) (hn : n ≤ 30) : ∃ m x ee, m ≤ 300 ∧
    (∀ a c W, Ints W a ws → Calls Try.prog 24 #[bodyV q a n c] W (PowC m x ee W)) ∧
    (∀ a c W, Ints W a ws → Calls Try.prog 25 #[bodyV q a n c] W (PowC m x ee W)) := by
  by_cases hB : BodyP q ws
  · have gm : Game n (winB q ws) := by have := game_body hB; rwa [hl] at this
    refine ⟨n, powR (winB q ws) n, 0, by omega, fun a c W h => ?_, fun a c W h => ?_⟩
    · exact (Power_yes q a n c ws W h hl hB).mono fun e w' ⟨r, rc, he, _, hI, hb⟩ => ⟨r, rc, he, hI, hb⟩
    · exact (refPower_yes q a n c ws W h hl hB).mono fun e w' ⟨r, rc, he, _, hI, hb⟩ => ⟨r, rc, he, rats_congr hI (fun i hi => powT_eq gm hi), hb⟩
  · refine ⟨0, fun _ => (0, 0), 2, by omega, fun a c W h => ?_, fun a c W h => ?_⟩
    · exact (Power_no q a n c ws W h hl hB).mono fun e w' ⟨he, hb⟩ => ⟨none, 0, he, .inl rfl, hb⟩
    · exact (refPower_no q a n c ws W h hl hn hB).mono fun e w' ⟨he, hb⟩ => ⟨none, 0, he, .inl rfl, hb⟩
set_option maxRecDepth 100000 in
set_option maxHeartbeats 8000000 in
theorem powers_any (q : Int) (a : Option Addr) (n c : Nat) (ws : List Int) (w : World) (h : Ints w a ws) (hl : ws.length = n) (_hnc : n ≤ c) (_hnil : a = none → c = 0) :
    Calls Try.prog 4 #[bodyV q a n c] w (Ret (.bool true) w) := by
  have F := Lib.hid (fun W => few_any q a n c W)
  have X := Lib.hid (Blk.new w 24 #[.int .i64 q, .slice a n c])
  by_cases h30 : n ≤ 30
  · rw [decide_eq_true h30] at F
    obtain ⟨m, L, ee, hLm, hm3, T1, T2⟩ := turns_pair q n ws hl h30
    obtain ⟨k, x, ff, hk3, P1, P2⟩ := power_pair q n ws hl h30
    have SL := Lib.hid (fun r r' rc rc' W hW hW' => same_at r r' m rc rc' L W hW hW' hLm (by omega))
    have he1 : (ee != ee) = false := by simp
    have he2 : (ff != ff) = false := by simp
    have hkk : ((k : Int) != (k : Int)) = false := by simp
    have hxx := Lib.hid (fun i => (show eqP ((x i).1, (x i).2) ((x i).1, (x i).2) = true by simp [eqP]))
    replace T1 := Lib.hid T1
    replace T2 := Lib.hid T2
    replace P1 := Lib.hid P1
    replace P2 := Lib.hid P2
    replace h := Lib.hid h
    clear hl hLm
    go_enter Try.func4, Try.ntmps4
    have k0 := Lib.hid (b1 w (.cells #[.int .i64 q, .slice a n c] 24))
    have x0 := X.out.c 0 rfl
    have x1 := X.out.c 1 rfl
    go_wp2_with (first
      | (go_at_call 15; refine (F.out _).mono ?_; rintro e w1 ⟨rfl, hb⟩; replace X := Lib.hid (X.out.ext hb); replace k0 := Lib.hid (nextB k0.out hb); clear x0 x1; have x0 := X.out.c 0 rfl; have x1 := X.out.c 1 rfl)
      | (go_at_call 22; refine (T1.out _ _ _ (h.out.next k0.out)).mono ?_; rintro e w2 ⟨r1, rc1, rfl, hL1, hb⟩; replace X := Lib.hid (X.out.ext hb); replace k0 := Lib.hid (nextB k0.out hb); replace hL1 := Lib.hid hL1; clear x0 x1; have x0 := X.out.c 0 rfl; have x1 := X.out.c 1 rfl)
      | (go_at_call 23; refine (T2.out _ _ _ (h.out.next k0.out)).mono ?_; rintro e w3 ⟨r2, rc2, rfl, hL2, hb⟩; replace X := Lib.hid (X.out.ext hb); replace k0 := Lib.hid (nextB k0.out hb); replace hL1 := Lib.hid (hL1.out.next hb); replace hL2 := Lib.hid hL2; clear x0 x1; have x0 := X.out.c 0 rfl; have x1 := X.out.c 1 rfl)
      | (go_at_call 21; refine (SL.out _ _ _ _ _ hL1.out hL2.out).mono ?_; rintro e w4 ⟨rfl, hb⟩; replace X := Lib.hid (X.out.ext hb); replace k0 := Lib.hid (nextB k0.out hb); clear x0 x1 hL1 hL2; have x0 := X.out.c 0 rfl; have x1 := X.out.c 1 rfl)
      | (go_at_call 24; refine (P1.out _ _ _ (h.out.next k0.out)).mono ?_; rintro e w5 ⟨r3, rc3, rfl, hL1, hb⟩; replace X := Lib.hid (X.out.ext hb); replace k0 := Lib.hid (nextB k0.out hb); replace hL1 := Lib.hid hL1; clear x0 x1; have x0 := X.out.c 0 rfl; have x1 := X.out.c 1 rfl)
      | (go_at_call 25; refine (P2.out _ _ _ (h.out.next k0.out)).mono ?_; rintro e w6 ⟨r4, rc4, rfl, hL2, hb⟩; replace X := Lib.hid (X.out.ext hb); replace k0 := Lib.hid (nextB k0.out hb); replace hL1 := Lib.hid (rats_next hL1.out hb); replace hL2 := Lib.hid hL2; clear x0 x1))
    go_loopw [9] (fun i wr => ∃ j : Nat, j ≤ k ∧ i = .int .i64 j ∧ Rats wr r3 x k ∧ Rats wr r4 x k ∧ Below w.heap.size w wr) (fun i _ => k - (intOf i).toNat)
    case atStart => exact ⟨0, by omega, rfl, hL1.out, hL2.out, k0.out⟩
    case round =>
      clear hL1 hL2 k0
      obtain ⟨j, hj, rfl, hL1, hL2, B1⟩ := hrel
      by_cases hlt : j < k
      · have hji : (j : Int) < (k : Int) := by omega
        obtain ⟨b3, o3, rfl, hc3⟩ : ∃ b off, r3 = some ⟨b, off, none⟩ ∧ ∀ i, i < k → wr.cell? ⟨b, off + i * 2, none⟩ = some (.int .i64 (x i).1) ∧ wr.cell? ⟨b, off + i * 2 + 1, none⟩ = some (.int .i64 (x i).2) := by
          rcases hL1 with h0 | h0
          · omega
          · exact h0
        obtain ⟨b4, o4, rfl, hc4⟩ : ∃ b off, r4 = some ⟨b, off, none⟩ ∧ ∀ i, i < k → wr.cell? ⟨b, off + i * 2, none⟩ = some (.int .i64 (x i).1) ∧ wr.cell? ⟨b, off + i * 2 + 1, none⟩ = some (.int .i64 (x i).2) := by
          rcases hL2 with h0 | h0
          · omega
          · exact h0
        have y0 := cellX (hc3 j hlt).1
        have y1 := cellX (hc3 j hlt).2
        have z0 := cellX (hc4 j hlt).1
        have z1 := cellX (hc4 j hlt).2
        have hxj := hxx.out j
        replace hc3 := Lib.hid hc3
        replace hc4 := Lib.hid hc4
        replace hL1 := Lib.hid hL1
        replace hL2 := Lib.hid hL2
        go_wp2
        refine wp_region_ext (by kernel_rfl) (by kernel_rfl) ?_
        repeat (go_big_quiet_step (fail))
        refine wpQuiet_nil ?_
        rintro ⟨w7, hw7⟩
        dsimp only
        clear y0 y1 z0 z1
        go_wp2
        go_roundw
        case rel => exact ⟨j + 1, by omega, by go_num, rats_next hL1.out hw7, rats_next hL2.out hw7, nextB B1 hw7⟩
        case measure => simp [intOf]; omega
      · obtain rfl : j = k := by omega
        replace hL1 := Lib.hid hL1
        replace hL2 := Lib.hid hL2
        go_wp2_with (go_at_call 16; refine (alive_any _).mono ?_; rintro e w8 ⟨rfl, hb8⟩)
        go_ret
        exact Ret.mk rfl (nextB B1 hb8)
  · rw [decide_eq_false h30] at F
    clear hl
    go_enter Try.func4, Try.ntmps4
    go_wp2_with (first
      | (go_at_call 15; refine (F.out _).mono ?_; rintro e w1 ⟨rfl, hb1⟩)
      | (go_at_call 16; refine (alive_any _).mono ?_; rintro e w2 ⟨rfl, hb2⟩))
    go_ret
    exact Ret.mk rfl (nextB (b1 _ _) (nextB hb1 hb2))
end Go.Proofs.Ytnnndooagpkgmaa
