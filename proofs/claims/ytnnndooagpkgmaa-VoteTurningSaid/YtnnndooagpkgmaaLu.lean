/- VoteTurning: the sum of Power is 1; Turns by the winning sets: the walk. -/
import Derived.Test.YtnnndooagpkgmaaWy
namespace Go.Proofs.Ytnnndooagpkgmaa
open Go Go.RowKit

/-- How many of the first k sets win and hold a drover. -/
def withC (f : Nat → Bool) (k e : Nat) : Nat := cnt (fun s => f s && s.testBit e) k
theorem withC_succ (f : Nat → Bool) (k e : Nat) : withC f (k + 1) e = withC f k e + if (f k && k.testBit e) then 1 else 0 := rfl
/-- The counts while a set is gone through. -/
def withM (f : Nat → Bool) (k j e : Nat) : Nat := if e < j then withC f (k + 1) e else withC f k e
theorem cN_same {c c' : Nat → Nat} {n : Nat} (h : ∀ i, i < n → c i = c' i) : cN c n = cN c' n := by
  unfold cN
  congr 1
  refine List.map_congr_left fun i hi => ?_
  rw [h i (List.mem_range.1 hi)]
theorem sumTo_mono (g : Nat → Nat) {a b : Nat} (h : a ≤ b) : sumTo g a ≤ sumTo g b := by
  obtain ⟨d, rfl⟩ : ∃ d, b = a + d := ⟨b - a, by omega⟩
  rw [sumTo_split]; omega
set_option maxRecDepth 100000 in
set_option maxHeartbeats 8000000 in
theorem turning_any (q : Int) (a : Option Addr) (n c : Nat) (ws : List Int) (w : World) (h : Ints w a ws) (hl : ws.length = n) (_hnc : n ≤ c) (_hnil : a = none → c = 0) :
    Calls Try.prog 10 #[bodyV q a n c] w (Ret (.bool true) w) := by
  have F := Lib.hid (fun W => few_any q a n c W)
  have X := Lib.hid (Blk.new w 24 #[.int .i64 q, .slice a n c])
  by_cases h30 : n ≤ 30
  · rw [decide_eq_true h30] at F
    have K := Lib.hid (fun W hW => refIsBody_any q a n c ws W hW hl (by omega))
    by_cases hB : BodyP q ws
    · rw [decide_eq_true hB] at K
      have h8 : n ≤ 8 := by have := hB.2.1; omega
      have hp8 : pw n ≤ 256 := by have := pw_mono h8; simpa [pw] using this
      have gm : Game n (winB q ws) := by have := game_body hB; rwa [hl] at this
      obtain ⟨hro, hsum⟩ := powR_ok gm h8
      have htw := Lib.hid (fun e (he : e < n) => turn_with gm he)
      have T1 := Lib.hid (fun W hW => (Turns_yes q a n c ws W hW hl hB).mono fun _ _ k => k.at (listI_length _ _))
      have P1 := Lib.hid (fun W hW => Power_yes q a n c ws W hW hl hB)
      have WN := Lib.hid (fun s W hW (hs : s < pw n) => Wins_yes q a n c ws W s hW hl hB hs)
      have sh := wrap_shl (k := n) (by omega)
      have hmk := make_cn n (by omega)
      generalize powR (winB q ws) n = pr at *
      have htn : Hid (∀ e, turnI (winB q ws) (pw n) e = ((cnt (turnB (winB q ws) e) (pw n) : Nat) : Int)) := Lib.hid fun _ => rfl
      generalize turnI (winB q ws) (pw n) = tI at *
      generalize winB q ws = f at *
      obtain ⟨N, hN⟩ : ∃ N, Hid (pw n = N) := ⟨_, Lib.hid rfl⟩
      rw [hN.out] at hp8 htw WN sh htn
      have hcw := Lib.hid (fun k e => (show withC f k e ≤ k from cnt_le _ _))
      have hcf := Lib.hid (cnt_le f)
      have hws := Lib.hid (withC_succ f)
      have hcs := Lib.hid (fun k => (show cnt f (k + 1) = cnt f k + if f k then 1 else 0 from rfl))
      have hc0 : Hid (cnt f 0 = 0) := Lib.hid rfl
      replace hro := Lib.hid hro
      generalize hodT : (fun e => ordM f n n 0 e * (40320 / fac n)) = od at hsum
      replace hodT := Lib.hid hodT
      replace hsum := Lib.hid hsum
      have hnn : ((n : Int) != (n : Int)) = false := by simp
      have h := Lib.hid h
      clear hl hB gm
      go_enter Try.func10, Try.ntmps10
      have k0 := Lib.hid (b1 w (.cells #[.int .i64 q, .slice a n c] 24))
      have x0 := X.out.c 0 rfl
      have x1 := X.out.c 1 rfl
      go_wp2_with (first
        | (go_at_call 15; refine (F.out _).mono ?_; rintro e w1 ⟨rfl, hb⟩; replace X := Lib.hid (X.out.ext hb); replace k0 := Lib.hid (nextB k0.out hb); clear x0 x1; have x0 := X.out.c 0 rfl; have x1 := X.out.c 1 rfl)
        | (go_at_call 41; refine (K.out _ (h.out.next k0.out)).mono ?_; rintro e w1 ⟨rfl, hb⟩; replace X := Lib.hid (X.out.ext hb); replace k0 := Lib.hid (nextB k0.out hb); clear x0 x1; have x0 := X.out.c 0 rfl; have x1 := X.out.c 1 rfl)
        | (go_at_call 22; refine (T1.out _ (h.out.next k0.out)).mono ?_; rintro e w2 ⟨r1, rc1, rfl, hr1, hL1, hb⟩; replace X := Lib.hid (X.out.ext hb); replace k0 := Lib.hid (nextB k0.out hb); replace hL1 := Lib.hid hL1; clear x0 x1; have x0 := X.out.c 0 rfl; have x1 := X.out.c 1 rfl)
        | (go_at_call 24; refine (P1.out _ (h.out.next k0.out)).mono ?_; rintro e w3 ⟨r3, rc3, rfl, hr3, hR1, hb⟩; replace X := Lib.hid (X.out.ext hb); replace k0 := Lib.hid (nextB k0.out hb); replace hL1 := Lib.hid (hL1.out.next hb); replace hR1 := Lib.hid hR1; clear x0 x1; have x0 := X.out.c 0 rfl; have x1 := X.out.c 1 rfl))
      have hWB := Lib.hid (Blk.new w3 3 (cN (fun _ => 0) n))
      have BW := b1 w3 (.cells (cN (fun _ => 0) n) 3)
      clear hmk
      go_loopw [8, 10, 11, 12, 13] (fun al s _ _ _ wr => ∃ k : Nat, k ≤ N ∧ s = .int .i64 k ∧ al = .int .i64 ((cnt f k : Nat) : Int) ∧ Blk wr w3.heap.size 3 (cN (withC f k) n) ∧ Below w3.heap.size w3 wr) (fun _ s _ _ _ _ => N - (intOf s).toNat)
      case atStart => exact ⟨0, by omega, rfl, by rw [hc0.out]; rfl, hWB.out, BW⟩
      case round =>
        clear hWB BW
        obtain ⟨k, hk, rfl, rfl, hWB, BW⟩ := hrel
        have x0 := (X.out.ext BW).c 0 rfl
        have x1 := (X.out.ext BW).c 1 rfl
        replace hWB := Lib.hid hWB
        by_cases hlt : k < N
        · have hki : (k : Int) < (N : Int) := by omega
          have WK := Lib.hid (fun W hW => WN.out k W hW hlt)
          have hcsk := Lib.hid (hcs.out k)
          have hclk := hcf.out k
          have hwsk := Lib.hid (hws.out k)
          obtain ⟨al, hal⟩ : ∃ al, Hid (cnt f k = al) := ⟨_, Lib.hid rfl⟩
          rw [hal.out] at hcsk hclk ⊢
          cases gf : f k
          · rw [gf] at WK hcsk
            have hsame : Hid (cN (withC f k) n = cN (withC f (k + 1)) n) := Lib.hid (cN_same fun i _ => by rw [hwsk.out, gf]; rfl)
            replace gf := Lib.hid gf
            go_wp2_with (go_at_call 17; (with_reducible refine (WK.out _ (h.out.next (nextB k0.out BW))).mono ?_); rintro e v1 ⟨rfl, hb1⟩)
            replace hWB := Lib.hid (hWB.out.ext hb1)
            replace BW := nextB BW hb1
            clear hb1 x0 x1
            generalize v1 = v2 at *
            go_loopw [13] (fun i wr => i = .int .i64 0 ∧ Blk wr w3.heap.size 3 (cN (withC f k) n) ∧ Below w3.heap.size w3 wr) (fun _ _ => 0)
            case atStart => exact ⟨rfl, hWB.out, BW⟩
            case round =>
              clear hWB BW
              obtain ⟨rfl, hWB, BW⟩ := hrel
              replace hWB := Lib.hid hWB
              by_cases hn0 : 0 < n
              · have hni : (0 : Int) < (n : Int) := by omega
                go_wp2
                go_roundw
                case rel => exact ⟨k + 1, by omega, by go_num, by rw [hcsk.out]; rfl, by rw [← hsame.out]; exact hWB.out, BW⟩
                case measure => simp [intOf]; omega
              · have hni : ¬ ((0 : Int) < (n : Int)) := by omega
                go_wp2
                go_roundw
                case rel => exact ⟨k + 1, by omega, by go_num, by rw [hcsk.out]; rfl, by rw [← hsame.out]; exact hWB.out, BW⟩
                case measure => simp [intOf]; omega
          · rw [gf] at WK hcsk
            have hstart : Hid (cN (withC f k) n = cN (withM f k 0) n) := Lib.hid (cN_same fun i _ => by unfold withM; rw [if_neg (by omega)])
            have hend : Hid (cN (withM f k n) n = cN (withC f (k + 1)) n) := Lib.hid (cN_same fun i hi => by unfold withM; rw [if_pos hi])
            have hstep : Hid (∀ j, j < n → (withC f k j + bt k j = withM f k (j + 1) j ∧ withM f k j j = withC f k j)) := Lib.hid (fun j hj => by
              unfold withM
              rw [if_pos (by omega), if_neg (by omega), hwsk.out, gf, bt_test]
              exact ⟨by cases k.testBit j <;> rfl, rfl⟩)
            have hset : Hid (∀ j, j < n → (cN (withM f k j) n).setIfInBounds j (.int .i64 ((withM f k (j + 1) j : Nat) : Int)) = cN (withM f k (j + 1)) n) := Lib.hid (fun j hj => cN_set _ _ _ _ fun i _ hne => by
              unfold withM
              by_cases h1 : i < j
              · rw [if_pos h1, if_pos (by omega)]
              · rw [if_neg h1, if_neg (by omega)])
            have hbd := Lib.hid (fun j => hcw.out k j)
            replace gf := Lib.hid gf
            go_wp2_with (go_at_call 17; (with_reducible refine (WK.out _ (h.out.next (nextB k0.out BW))).mono ?_); rintro e v1 ⟨rfl, hb1⟩)
            replace hWB := Lib.hid (hWB.out.ext hb1)
            replace BW := nextB BW hb1
            clear hb1 x0 x1
            generalize v1 = v2 at *
            go_loopw [13] (fun i wr => ∃ j : Nat, j ≤ n ∧ i = .int .i64 j ∧ Blk wr w3.heap.size 3 (cN (withM f k j) n) ∧ Below w3.heap.size w3 wr) (fun i _ => n - (intOf i).toNat)
            case atStart => exact ⟨0, by omega, rfl, by rw [← hstart.out]; exact hWB.out, BW⟩
            case round =>
              clear hWB BW
              obtain ⟨j, hj, rfl, hWB, BW⟩ := hrel
              by_cases hjn : j < n
              · have hji : (j : Int) < (n : Int) := by omega
                have c0 := hWB.c j (cN_get hjn)
                obtain ⟨e1, e2⟩ := hstep.out j hjn
                have e3 := hset.out j hjn
                have e4 := hbd.out j
                have e5 := bt_lt k j
                have hbt := bt_int k j
                rw [e2] at c0
                rw [← e1] at e3
                clear e1 e2
                generalize withC f k j = wv at *
                generalize bt k j = bv at *
                have hadd : IntKind.i64.wrap ((wv : Int) + (bv : Int)) = ((wv + bv : Nat) : Int) := by rw [IntWalk.i64_in _ (by omega)]; omega
                have y0 := cellX c0
                replace hWB := Lib.hid hWB
                replace e3 := Lib.hid e3
                go_wp2
                refine wp_region_ext_tail 10 (by kernel_rfl) (by kernel_rfl) ?_
                simp only [List.take_succ_cons, List.take_zero, List.drop_succ_cons, List.drop_zero]
                repeat (go_big_quiet_step (fail))
                refine wpQuiet_nil ?_
                rintro ⟨w5, hw5⟩
                dsimp only
                clear y0
                have hW5 := hWB.out.ext hw5
                replace c0 := cellB hw5 c0
                have fr := hW5.fr j
                have hS := hW5.setA (i := j) (.int .i64 ((wv + bv : Nat) : Int))
                rw [e3.out] at hS
                replace hS := Lib.hid hS
                replace hW5 := Lib.hid hW5
                replace BW := nextB BW hw5
                go_wp2
                go_roundw
                case rel => exact ⟨j + 1, by omega, by go_num, hS.out, BW.setCell (Nat.le_refl _) _⟩
                case measure => simp [intOf]; omega
              · obtain rfl : j = n := by omega
                rw [hend.out] at hWB
                replace hWB := Lib.hid hWB
                go_wp2
                go_roundw
                case rel => exact ⟨k + 1, by omega, by go_num, by rw [hcsk.out]; go_num, hWB.out, BW⟩
                case measure => simp [intOf]; omega
        · obtain rfl : k = N := by omega
          have hod0 : Hid (sumTo od 0 = 0) := Lib.hid rfl
          have hods := Lib.hid (fun j => (show sumTo od (j + 1) = sumTo od j + od j from rfl))
          have hodl : Hid (∀ j, j ≤ n → sumTo od j ≤ 40320) := Lib.hid (fun j hj => by rw [← hsum.out]; exact sumTo_mono od hj)
          clear x0 x1 WN hcs hws
          go_wp2
          generalize wr = v2 at *
          go_loopw [14, 15] (fun sm i wr => ∃ j : Nat, j ≤ n ∧ i = .int .i64 j ∧ sm = .int .i64 ((sumTo od j : Nat) : Int) ∧ Blk wr w3.heap.size 3 (cN (withC f k) n) ∧ Below w3.heap.size w3 wr) (fun _ i _ => n - (intOf i).toNat)
          case atStart => exact ⟨0, by omega, rfl, by rw [hod0.out]; rfl, hWB.out, BW⟩
          case round =>
            clear hWB BW
            obtain ⟨j, hj, rfl, rfl, hWB, BW⟩ := hrel
            replace hWB := Lib.hid hWB
            by_cases hjn : j < n
            · have hji : (j : Int) < (n : Int) := by omega
              have c0 := hWB.out.c j (cN_get hjn)
              obtain ⟨b1', o1, rfl, hc1⟩ := ints_at (hL1.out.next BW) (by rw [listI_length]; omega)
              have t0 := hc1 j (by rw [listI_length]; omega)
              rw [listI_nth hjn, htn.out j] at t0
              obtain ⟨b3, o3, rfl, hc3⟩ : ∃ b off, r3 = some ⟨b, off, none⟩ ∧ ∀ i, i < n → wr.cell? ⟨b, off + i * 2, none⟩ = some (.int .i64 (pr i).1) ∧ wr.cell? ⟨b, off + i * 2 + 1, none⟩ = some (.int .i64 (pr i).2) := by
                rcases rats_next hR1.out BW with h0 | h0
                · omega
                · exact h0
              obtain ⟨p0, p1⟩ := hc3 j hjn
              have htwj := htw.out j hjn
              obtain ⟨⟨d1, d2⟩, dv, ⟨u1, u2⟩, vl⟩ := hro.out j hjn
              have hwl := hcw.out k j
              have hal := hcf.out k
              have hsj := hods.out j
              have hsl := hodl.out (j + 1) (by omega)
              have htwj' : cnt (turnB f j) k + cnt f k = 2 * withC f k j := htwj
              clear htwj hc1 hc3
              generalize cnt (turnB f j) k = tv at *
              generalize cnt f k = al at *
              generalize withC f k j = wv at *
              have hodj : od j = ordM f n n 0 j * (40320 / fac n) := (congrFun hodT.out j).symm
              rw [← hodj] at vl
              replace hodj := Lib.hid hodj
              generalize (pr j).1 = u at *
              generalize (pr j).2 = d at *
              rw [hsj] at hsl
              obtain ⟨sm, hsm⟩ : ∃ sm, Hid (sumTo od j = sm) := ⟨_, Lib.hid rfl⟩
              rw [hsm.out] at hsj hsl ⊢
              obtain ⟨T, hT⟩ : ∃ T, Hid (od j = T) := ⟨_, Lib.hid rfl⟩
              rw [hT.out] at hsj hsl vl
              replace hsj := Lib.hid hsj
              have q1 : (40320 : Int).tdiv d = 40320 / d := Int.tdiv_eq_ediv_of_nonneg (by omega)
              have q2 : (40320 : Int).tmod d = 0 := by rw [Int.tmod_eq_emod_of_nonneg (by omega)]; exact dv
              have q3 : 0 ≤ (40320 : Int) / d := Int.ediv_nonneg (by omega) (by omega)
              have q4 : (40320 : Int) / d ≤ 40320 := Int.ediv_le_self _ (by omega)
              generalize (40320 : Int) / d = Q at *
              have q5 : IntKind.i64.wrap Q = Q := IntWalk.i64_in _ (by omega)
              have q6 : wrap64 (u * Q) = (T : Int) := by rw [vl]; exact IntWalk.wrap64_in _ ⟨by omega, by omega⟩
              have q7 : IntKind.i64.wrap ((sm : Int) + (T : Int)) = ((sm + T : Nat) : Int) := by rw [IntWalk.i64_in _ (by omega)]; omega
              have q8 : (d == 0) = false := by rw [beq_eq_false_iff_ne]; omega
              have q9 : wrap64 (2 * (wv : Int)) = ((tv + al : Nat) : Int) := by rw [IntWalk.wrap64_in _ ⟨by omega, by omega⟩]; omega
              have q10 : IntKind.i64.wrap (((tv + al : Nat) : Int) - (al : Int)) = (tv : Int) := by rw [IntWalk.i64_in _ (by omega)]; omega
              have q11 : ((tv : Int) != (tv : Int)) = false := by simp
              have q12 : decide (d < 1) = false := decide_eq_false (by omega)
              have q13 : decide (u < 0) = false := decide_eq_false (by omega)
              have q14 : decide (d < u) = false := decide_eq_false (by omega)
              have q15 : ((tv : Int) != 2 * (wv : Int) - (al : Int)) = false := by rw [bne_eq_false_iff_eq]; omega
              clear dv vl q9 q10
              generalize tv + al = ta at *
              have y0 := cellX t0
              have y1 := cellX c0
              have y2 := cellX p0
              have y3 := cellX p1
              go_wp2
              refine wp_region_ext (by kernel_rfl) (by kernel_rfl) ?_
              repeat (go_big_quiet_step (fail))
              refine wpQuiet_nil ?_
              rintro ⟨w5, hw5⟩
              dsimp only
              clear y0 y1 y2 y3
              replace t0 := cellB hw5 t0
              replace c0 := cellB hw5 c0
              replace p0 := cellB hw5 p0
              replace p1 := cellB hw5 p1
              have y2 := cellX p0
              have y3 := cellX p1
              go_wp2
              refine wp_region_ext (by kernel_rfl) (by kernel_rfl) ?_
              repeat (go_big_quiet_step (fail))
              refine wpQuiet_nil ?_
              rintro ⟨w6, hw6⟩
              dsimp only
              clear y2 y3
              go_wp2
              go_roundw
              case rel => exact ⟨j + 1, by omega, by go_num, by rw [hsj.out]; go_num, (hWB.out.ext hw5).ext hw6, nextB BW (nextB hw5 hw6)⟩
              case measure => simp [intOf]; omega
            · obtain rfl : j = n := by omega
              have hs40 := hsum.out
              rw [hs40]
              go_wp2_with (go_at_call 16; refine (alive_any _).mono ?_; rintro e w8 ⟨rfl, hb8⟩)
              go_ret
              exact Ret.mk rfl (nextB k0.out (nextB BW hb8))
    · rw [decide_eq_false hB] at K
      replace h := Lib.hid h
      clear hl
      go_enter Try.func10, Try.ntmps10
      go_wp2_with (first
        | (go_at_call 15; refine (F.out _).mono ?_; rintro e w1 ⟨rfl, hb1⟩; have x0 := (X.out.ext hb1).c 0 rfl; have x1 := (X.out.ext hb1).c 1 rfl)
        | (go_at_call 41; refine (K.out _ (h.out.next (nextB (b1 _ _) hb1))).mono ?_; rintro e w2 ⟨rfl, hb2⟩)
        | (go_at_call 16; refine (alive_any _).mono ?_; rintro e w3 ⟨rfl, hb3⟩))
      go_ret
      exact Ret.mk rfl (nextB (b1 _ _) (nextB hb1 (nextB hb2 hb3)))
  · rw [decide_eq_false h30] at F
    clear hl
    go_enter Try.func10, Try.ntmps10
    go_wp2_with (first
      | (go_at_call 15; refine (F.out _).mono ?_; rintro e w1 ⟨rfl, hb1⟩)
      | (go_at_call 16; refine (alive_any _).mono ?_; rintro e w2 ⟨rfl, hb2⟩))
    go_ret
    exact Ret.mk rfl (nextB (b1 _ _) (nextB hb1 hb2))
end Go.Proofs.Ytnnndooagpkgmaa
