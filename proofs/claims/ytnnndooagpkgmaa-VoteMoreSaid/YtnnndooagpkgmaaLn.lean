/- VoteMore: the walk. -/
import Derived.Test.YtnnndooagpkgmaaLm
namespace Go.Proofs.Ytnnndooagpkgmaa
open Go Go.RowKit

theorem wrap_prod {x y : Int} (h1 : 0 ≤ x) (h2 : x ≤ 40320) (h3 : 0 ≤ y) (h4 : y ≤ 40320) : wrap64 (x * y) = x * y := by
  have a := Int.mul_nonneg h1 h3
  have b : x * y ≤ 40320 * 40320 := Int.mul_le_mul h2 h4 h3 (by omega)
  exact IntWalk.wrap64_in _ ⟨by omega, by omega⟩
set_option maxRecDepth 100000 in
set_option maxHeartbeats 8000000 in
theorem more_any (q : Int) (a : Option Addr) (n c : Nat) (ws : List Int) (s1 s2 : Nat) (w : World) (h : Ints w a ws) (hl : ws.length = n) (_hnc : n ≤ c) (_hnil : a = none → c = 0) (hs1 : s1 ≤ 255) (hs2 : s2 ≤ 255) :
    Calls Try.prog 11 #[bodyV q a n c, .int .u8 (s1 : Nat), .int .u8 (s2 : Nat)] w (Ret (.bool true) w) := by
  have F := Lib.hid (fun W => few_any q a n c W)
  have X := Lib.hid (Blk.new w 24 #[.int .i64 q, .slice a n c])
  by_cases h30 : n ≤ 30
  · rw [decide_eq_true h30] at F
    have K := Lib.hid (fun W hW => refIsBody_any q a n c ws W hW hl (by omega))
    by_cases hB : BodyP q ws
    · rw [decide_eq_true hB] at K
      have h8 : n ≤ 8 := by have := hB.2.1; omega
      have hn0 : 0 < n := by have := hB.1; omega
      have gm : Game n (winB q ws) := by have := game_body hB; rwa [hl] at this
      have hro := (powR_ok gm h8).1
      have hi : s1 % n < n := Nat.mod_lt _ hn0
      have hk : s2 % n < n := Nat.mod_lt _ hn0
      have m1 : (s1 : Int) % (n : Int) = ((s1 % n : Nat) : Int) := (Int.natCast_emod _ _).symm
      have m2 : (s2 : Int) % (n : Int) = ((s2 % n : Nat) : Int) := (Int.natCast_emod _ _).symm
      have m3 : (s1 : Int).tmod (n : Int) = ((s1 % n : Nat) : Int) := by rw [Int.tmod_eq_emod_of_nonneg (by omega)]; exact m1
      have m4 : (s2 : Int).tmod (n : Int) = ((s2 % n : Nat) : Int) := by rw [Int.tmod_eq_emod_of_nonneg (by omega)]; exact m2
      generalize s1 % n = i at *
      generalize s2 % n = k at *
      have T1 := Lib.hid (fun W hW => (Turns_yes q a n c ws W hW hl hB).mono fun _ _ k => k.at (listI_length _ _))
      have P1 := Lib.hid (fun W hW => Power_yes q a n c ws W hW hl hB)
      have hik := Lib.hid (fun (hh : nth ws k ≤ nth ws i) => two_of (q := q) hl gm hi hk hh)
      have hki := Lib.hid (fun (hh : nth ws i ≤ nth ws k) => two_of (q := q) hl gm hk hi hh)
      generalize powR (winB q ws) n = pr at *
      generalize turnI (winB q ws) (pw n) = tI at *
      obtain ⟨⟨d1, d2⟩, _, ⟨u1, u2⟩, _⟩ := hro i hi
      obtain ⟨⟨e1, e2⟩, _, ⟨v1, v2⟩, _⟩ := hro k hk
      obtain ⟨ba, oa, rfl, hca⟩ := ints_at h (by omega)
      have wi := hca i (by omega)
      have wk := hca k (by omega)
      have hnn : ((n : Int) != (n : Int)) = false := by simp
      have hnz : ((n : Int) == 0) = false := by rw [beq_eq_false_iff_ne]; omega
      have hil : (i : Int) < (n : Int) := by omega
      have hkl : (k : Int) < (n : Int) := by omega
      have h := Lib.hid h
      have hlL := Lib.hid hl
      have hws := Lib.hid (Nat.le_of_eq hl)
      replace hca := Lib.hid hca
      clear hl hB gm hro
      go_enter Try.func11, Try.ntmps11
      have k0 := Lib.hid (b1 w (.cells #[.int .i64 q, .slice (some ⟨ba, oa, none⟩) n c] 24))
      have x0 := X.out.c 0 rfl
      have x1 := X.out.c 1 rfl
      go_wp2_with (first
        | (go_at_call 15; refine (F.out _).mono ?_; rintro e w1 ⟨rfl, hb⟩; replace X := Lib.hid (X.out.ext hb); replace k0 := Lib.hid (nextB k0.out hb); clear x0 x1; have x0 := X.out.c 0 rfl; have x1 := X.out.c 1 rfl)
        | (go_at_call 41; refine (K.out _ (h.out.next k0.out)).mono ?_; rintro e w1 ⟨rfl, hb⟩; replace X := Lib.hid (X.out.ext hb); replace k0 := Lib.hid (nextB k0.out hb); clear x0 x1; have x0 := X.out.c 0 rfl; have x1 := X.out.c 1 rfl))
      have y1 := cellX x1
      refine wp_region_ext (by kernel_rfl) (by kernel_rfl) ?_
      repeat (go_big_quiet_step (fail))
      refine wpQuiet_nil ?_
      rintro ⟨w2, hb⟩
      dsimp only
      replace X := Lib.hid (X.out.ext hb)
      replace k0 := Lib.hid (nextB k0.out hb)
      clear x0 x1
      have x0 := X.out.c 0 rfl
      have x1 := X.out.c 1 rfl
      clear y1
      go_wp2_with (first
        | (go_at_call 22; refine (T1.out _ (h.out.next k0.out)).mono ?_; rintro e w2 ⟨r1, rc1, rfl, hr1, hL1, hb⟩; replace hL1 := Lib.hid hL1; replace X := Lib.hid (X.out.ext hb); replace k0 := Lib.hid (nextB k0.out hb); clear x0 x1; have x0 := X.out.c 0 rfl; have x1 := X.out.c 1 rfl)
        | (go_at_call 24; refine (P1.out _ (h.out.next k0.out)).mono ?_; rintro e w3 ⟨r3, rc3, rfl, hr3, hR1, hb⟩; obtain ⟨b3, o3, rfl, hc3⟩ := rats_some hR1 hn0; obtain ⟨p0, p1⟩ := hc3 i hi; obtain ⟨p2, p3⟩ := hc3 k hk; replace hc3 := Lib.hid hc3; replace hL1 := Lib.hid (hL1.out.next hb); replace hR1 := Lib.hid hR1; replace X := Lib.hid (X.out.ext hb); replace k0 := Lib.hid (nextB k0.out hb); clear x0 x1; have x0 := X.out.c 0 rfl; have x1 := X.out.c 1 rfl))
      replace wi := cellB k0.out wi
      replace wk := cellB k0.out wk
      obtain ⟨b5, o5, rfl, hct⟩ := ints_at hL1.out (by rw [listI_length]; omega)
      have t0 := hct i (by rw [listI_length]; omega)
      have t1 := hct k (by rw [listI_length]; omega)
      rw [listI_nth hi] at t0
      rw [listI_nth hk] at t1
      replace hct := Lib.hid hct
      have z6 := wrap_prod u1 (Int.le_trans u2 d2) (by omega) e2
      have z7 := wrap_prod v1 (Int.le_trans v2 e2) (by omega) d2
      by_cases hlw : nth ws i < nth ws k
      · obtain ⟨ht, hp⟩ := hki.out (by omega)
        have hd1 : decide (nth ws i < nth ws k) = true := decide_eq_true hlw
        have hd2 : decide (tI i ≤ tI k) = true := decide_eq_true ht
        have hd3 : decide ((pr i).1 * (pr k).2 ≤ (pr k).1 * (pr i).2) = true := decide_eq_true hp
        clear hik hki T1 P1 hca hlw ht hp
        generalize (pr i).1 = ui at *
        generalize (pr i).2 = di at *
        generalize (pr k).1 = uk at *
        generalize (pr k).2 = dk at *
        generalize tI i = ti at *
        generalize tI k = tk at *
        generalize nth ws i = wgi at *
        generalize nth ws k = wgk at *
        have y1 := cellX x1
        have ya := cellX wi
        have yb := cellX wk
        go_wp2
        refine wp_region_ext (by kernel_rfl) (by kernel_rfl) ?_
        repeat (go_big_quiet_step (fail))
        refine wpQuiet_nil ?_
        rintro ⟨w4, hb⟩
        dsimp only
        replace k0 := Lib.hid (nextB k0.out hb)
        replace p0 := cellB hb p0
        replace p1 := cellB hb p1
        replace p2 := cellB hb p2
        replace p3 := cellB hb p3
        replace t0 := cellB hb t0
        replace t1 := cellB hb t1
        clear y1 ya yb x0 x1 hb
        have z0 := cellX p0
        have z1 := cellX p1
        have z2 := cellX p2
        have z3 := cellX p3
        have z4 := cellX t0
        have z5 := cellX t1
        go_wp2
        refine wp_region_ext (by kernel_rfl) (by kernel_rfl) ?_
        repeat (go_big_quiet_step ((go_at_call 16; exact callE (alive_any _))))
        refine wpQuiet_nil ?_
        rintro ⟨w5, hb⟩
        dsimp only
        clear z0 z1 z2 z3 z4 z5
        go_wp2
        go_ret
        exact Ret.mk rfl (nextB k0.out hb)
      · obtain ⟨ht, hp⟩ := hik.out (by omega)
        have hd1 : decide (nth ws i < nth ws k) = false := decide_eq_false hlw
        have hd2 : decide (tI k ≤ tI i) = true := decide_eq_true ht
        have hd3 : decide ((pr k).1 * (pr i).2 ≤ (pr i).1 * (pr k).2) = true := decide_eq_true hp
        clear hik hki T1 P1 hca hlw ht hp
        generalize (pr i).1 = ui at *
        generalize (pr i).2 = di at *
        generalize (pr k).1 = uk at *
        generalize (pr k).2 = dk at *
        generalize tI i = ti at *
        generalize tI k = tk at *
        generalize nth ws i = wgi at *
        generalize nth ws k = wgk at *
        have y1 := cellX x1
        have ya := cellX wi
        have yb := cellX wk
        go_wp2
        refine wp_region_ext (by kernel_rfl) (by kernel_rfl) ?_
        repeat (go_big_quiet_step (fail))
        refine wpQuiet_nil ?_
        rintro ⟨w4, hb⟩
        dsimp only
        replace k0 := Lib.hid (nextB k0.out hb)
        replace p0 := cellB hb p0
        replace p1 := cellB hb p1
        replace p2 := cellB hb p2
        replace p3 := cellB hb p3
        replace t0 := cellB hb t0
        replace t1 := cellB hb t1
        clear y1 ya yb x0 x1 hb
        have z0 := cellX p0
        have z1 := cellX p1
        have z2 := cellX p2
        have z3 := cellX p3
        have z4 := cellX t0
        have z5 := cellX t1
        go_wp2
        refine wp_region_ext (by kernel_rfl) (by kernel_rfl) ?_
        repeat (go_big_quiet_step ((go_at_call 16; exact callE (alive_any _))))
        refine wpQuiet_nil ?_
        rintro ⟨w5, hb⟩
        dsimp only
        clear z0 z1 z2 z3 z4 z5
        go_wp2
        go_ret
        exact Ret.mk rfl (nextB k0.out hb)
    · rw [decide_eq_false hB] at K
      replace h := Lib.hid h
      clear hl
      go_enter Try.func11, Try.ntmps11
      go_wp2_with (first
        | (go_at_call 15; refine (F.out _).mono ?_; rintro e w1 ⟨rfl, hb1⟩; have x0 := (X.out.ext hb1).c 0 rfl; have x1 := (X.out.ext hb1).c 1 rfl)
        | (go_at_call 41; refine (K.out _ (h.out.next (nextB (b1 _ _) hb1))).mono ?_; rintro e w2 ⟨rfl, hb2⟩)
        | (go_at_call 16; refine (alive_any _).mono ?_; rintro e w3 ⟨rfl, hb3⟩))
      go_ret
      exact Ret.mk rfl (nextB (b1 _ _) (nextB hb1 (nextB hb2 hb3)))
  · rw [decide_eq_false h30] at F
    clear hl
    go_enter Try.func11, Try.ntmps11
    go_wp2_with (first
      | (go_at_call 15; refine (F.out _).mono ?_; rintro e w1 ⟨rfl, hb1⟩)
      | (go_at_call 16; refine (alive_any _).mono ?_; rintro e w2 ⟨rfl, hb2⟩))
    go_ret
    exact Ret.mk rfl (nextB (b1 _ _) (nextB hb1 hb2))
end Go.Proofs.Ytnnndooagpkgmaa
