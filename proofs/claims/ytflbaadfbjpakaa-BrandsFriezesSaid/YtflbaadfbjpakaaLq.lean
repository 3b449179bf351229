/- BrandsFriezes: the table of a brand: at least 1, symmetric, and the rule of four neighbours: the walk. -/
import Derived.Test.YtflbaadfbjpakaaLz
import Derived.Test.YtflbaadfbjpakaaLw
namespace Go.Proofs.Ytflbaadfbjpakaa
open Go Go.RowKit

theorem frieze_facts {xs : List Int} {n : Nat} {M : List (Int × Int)} (hl : xs.length = n) (hR : RoundP xs) (hM : ofL xs = some M) :
    (∀ i, i < n → eD xs i (n - 1) = 1 ∧ eD xs i n = 0) ∧ (∀ i r, i < n → 1 ≤ r → r < n → 1 ≤ eD xs i r) ∧
    (∀ i r, i < n → r ≤ n → eD xs i r = eD xs ((i + r) % n) (n - r)) ∧
    ∀ i r, 1 ≤ r → eD xs i r * eD xs ((i + 1) % n) r - eD xs ((i + 1) % n) (r - 1) * eD xs i (r + 1) = 1 := by
  obtain ⟨hf, _, hr⟩ := ofL_brand hR.tame hR.1 hM
  have h3 := hR.1
  obtain ⟨m, hm⟩ : ∃ m, xs.length = m + 3 := ⟨xs.length - 3, by omega⟩
  rw [hm] at hf hr
  have hg := good_round m hf
  have hp : ∀ i r, i < m + 3 → 1 ≤ r → r < m + 3 → 1 ≤ eD (roundL (m + 3) M) i r := fun i r h1 h2 h4 => round_posr hf h1 h2 h4
  rw [hr] at hg hp
  subst hl
  refine ⟨(closed_iff (by omega)).2 hg.1, fun i r h1 h2 h4 => hp i r (by omega) h2 (by omega), fun i r h1 h2 => eD_symm hg.1 h1 h2, fun i r h1 => ?_⟩
  have := eD_diamond xs i r h1
  rwa [← eD_mod xs (i + 1) r, ← eD_mod xs (i + 1) (r - 1)] at this
theorem wrap_diamond {x y z u : Int} (h : x * y - z * u = 1) : (wrap64 (wrap64 (x * y) - wrap64 (z * u)) != 1) = false := by
  generalize x * y = p at *
  generalize z * u = q at *
  rw [bne_eq_false_iff_eq]
  unfold wrap64
  omega
set_option maxRecDepth 100000 in
set_option maxHeartbeats 4000000 in
theorem friezes_law (a : Option Addr) (len cap : Nat) (xs : List Int) (w : World) (h : Ints w a xs) (hl : xs.length = len) (_hcap : len ≤ cap) (_hnil : a = none → cap = 0) :
    Calls Try.prog 11 #[.slice a len cap] w (Ret (.bool true) w) := by
  clear _hnil _hcap
  by_cases h60 : len ≤ 60
  · have K := Lib.hid (refIsRound_any a len cap xs w h hl (by omega))
    by_cases hR : RoundP xs
    · rw [decide_eq_true hR] at K
      have h3 := hR.1
      have h12 := hR.2.1
      rw [hl] at h3 h12
      obtain ⟨b, off, rfl, hc⟩ := ints_at h (by omega)
      rw [hl] at hc
      have PF := Lib.hid (fun W (hW : Below w.heap.size w W) => Frieze_yes b off len cap xs W (h.next hW) hl hR (fun j hj => cellB hW (hc j hj)))
      have O := Lib.hid (Of_any (some ⟨b, off, none⟩) len cap xs w h hl (by omega))
      clear h hc
      go_enter Try.func11, Try.ntmps11
      go_wp2_with (go_at_call 44; refine K.out.mono ?_; rintro e w1 ⟨rfl, rfl⟩)
      refine O.out.mono ?_
      rintro e w1 ⟨hb1, hO⟩
      have hO2 : ∃ v er, e = .returned (.tuple #[v, .int .i64 er]) ∧ (er = 10 ∨ (er = 0 ∧ ∃ M, ofL xs = some M)) := by
        rcases hO with ⟨M, a', c', _, h1, h2, _⟩ | ⟨er, h1, h2⟩
        · exact ⟨_, 0, h2, .inr ⟨rfl, M, h1⟩⟩
        · refine ⟨_, er, h2, .inl ?_⟩
          rcases h1 with ⟨h1, _⟩ | ⟨_, _, h1⟩
          · exact absurd hR h1
          · exact h1
      obtain ⟨v, er, rfl, her⟩ := hO2
      clear hO O K
      dsimp only
      go_wp2_with fail
      refine (PF.out _ hb1).mono ?_
      rintro e w4 ⟨vA, GA, rfl, hGA, hoA, hTA, _, hb4⟩
      dsimp only
      clear PF
      obtain ⟨ta, ca, rfl⟩ := own_pos hoA (by omega)
      have hca := (own_cap hoA).1
      have hWA := whole_of hTA hGA hoA
      replace hb1 := nextB hb1 hb4
      clear hb4 hTA hoA
      go_wp2_with fail
      have T := Lib.hid (fun s (hs : s ≤ len) => show w4.cell? ⟨ta, s, none⟩ = some (.slice (some ⟨(gth GA s).1, 0, none⟩) len (gth GA s).2) from hWA.1 s (by omega))
      have U := Lib.hid (fun s (hs : s ≤ len) j (hj : j < len) => show w4.cell? ⟨(gth GA s).1, j, none⟩ = some (.int .i64 (eD xs j s)) from by
        rcases hWA.2 s (Nat.zero_le _) (by omega) with h0 | ⟨b', o', e', h1⟩
        · rw [rowT_len] at h0; omega
        · cases e'
          have := h1 j (by rw [rowT_len]; omega)
          rwa [Nat.zero_add, rowT_nth hj] at this)
      clear hWA
      replace hl := Lib.hid hl
      go_loop [8] (fun i => ∃ r : Nat, r ≤ len + 1 ∧ i = .int .i64 r) (fun i => len + 1 - (intOf i).toNat)
      case atStart => exact ⟨0, by omega, rfl⟩
      case round =>
        obtain ⟨r, hr, rfl⟩ := hrel
        by_cases hlr : r ≤ len
        · have t1 := T.out r hlr
          have i0 : (0 : Int) ≤ (r : Int) := by omega
          have i1 : (r : Int) < (len : Int) + 1 := by omega
          go_wp2_with fail
          go_round
          case rel => exact ⟨r + 1, by omega, by go_num⟩
          case measure => simp [intOf]; omega
        · obtain rfl : r = len + 1 := by omega
          rcases her with rfl | ⟨rfl, M, hM⟩
          · go_wp2_with (go_at_call 17; refine (alive_any _).mono ?_; rintro e w9 ⟨rfl, hb9⟩)
            go_ret
            exact Ret.mk rfl (nextB hb1 hb9)
          · obtain ⟨F1, F2, F3, F4⟩ := frieze_facts hl.out hR hM
            replace F1 := Lib.hid F1
            replace F2 := Lib.hid F2
            replace F3 := Lib.hid F3
            replace F4 := Lib.hid F4
            go_wp2_with fail
            clear hr hlr hM hR
            go_loopw [9] (fun i wr => ∃ j : Nat, j ≤ len ∧ i = .int .i64 j ∧ Below w4.heap.size w4 wr) (fun i _ => len - (intOf i).toNat)
            case atStart => exact ⟨0, by omega, rfl, Below.refl _ _⟩
            case round =>
              obtain ⟨i, hi, rfl, B⟩ := hrel
              by_cases hli : i < len
              · have a0 := cellB B (T.out 0 (by omega))
                have a1 := cellB B (T.out 1 (by omega))
                have an := cellB B (T.out len (by omega))
                have am := cellB B (T.out (len - 1) (by omega))
                have b0 := cellB B (U.out 0 (by omega) i hli)
                have b1 := cellB B (U.out 1 (by omega) i hli)
                have bn := cellB B (U.out len (by omega) i hli)
                have bm := cellB B (U.out (len - 1) (by omega) i hli)
                rw [(F1.out i hli).1] at bm
                rw [(F1.out i hli).2] at bn
                rw [show eD xs i 0 = 0 from rfl] at b0
                rw [show eD xs i 1 = 1 from rfl] at b1
                have i0 : (0 : Int) ≤ (i : Int) := by omega
                have i1 : (i : Int) < (len : Int) := by omega
                have n0 : (0 : Int) < (len : Int) + 1 := by omega
                have n1 : (1 : Int) < (len : Int) + 1 := by omega
                have n2 : (0 : Int) ≤ (len : Int) := by omega
                have n3 : (0 : Int) ≤ (len : Int) - 1 := by omega
                have n4 : (len : Int) - 1 < (len : Int) + 1 := by omega
                have n5 : ((len : Int) - 1).toNat = len - 1 := by omega
                go_wp2_with fail
                clear a0 a1 an am b0 b1 bn bm n1 n2 n3 n4 n5
                go_loopw [10] (fun v wr => ∃ r : Nat, 1 ≤ r ∧ r ≤ len ∧ v = .int .i64 r ∧ Below w4.heap.size w4 wr) (fun v _ => len - (intOf v).toNat)
                case atStart => exact ⟨1, by omega, by omega, rfl, B⟩
                case round =>
                  clear B
                  obtain ⟨r, hr1, hr2, rfl, B⟩ := hrel
                  by_cases hlr : r < len
                  · have g1 := F2.out i r hli hr1 hlr
                    have g2 := F3.out i r hli hr2
                    have g3 := F4.out i r hr1
                    have hp : (i + r) % len < len := Nat.mod_lt _ (by omega)
                    have hq : (i + 1) % len < len := Nat.mod_lt _ (by omega)
                    have ep : ((((i : Int) + (r : Int)) % (len : Int))).toNat = (i + r) % len := by
                      rw [← Int.natCast_add, ← Int.natCast_emod]
                      rfl
                    have eq : ((((i : Int) + 1) % (len : Int))).toNat = (i + 1) % len := by
                      rw [show (i : Int) + 1 = ((i + 1 : Nat) : Int) by omega, ← Int.natCast_emod]
                      rfl
                    have ep0 : 0 ≤ ((i : Int) + (r : Int)) % (len : Int) := Int.emod_nonneg _ (by omega)
                    have eq0 : 0 ≤ ((i : Int) + 1) % (len : Int) := Int.emod_nonneg _ (by omega)
                    have ep1 : ((i : Int) + (r : Int)) % (len : Int) < (len : Int) := Int.emod_lt_of_pos _ (by omega)
                    have eq1 : ((i : Int) + 1) % (len : Int) < (len : Int) := Int.emod_lt_of_pos _ (by omega)
                    have a1 := cellX (cellB B (T.out r (by omega)))
                    have a2 := cellX (cellB B (T.out (len - r) (by omega)))
                    have a3 := cellX (cellB B (T.out (r - 1) (by omega)))
                    have a4 := cellX (cellB B (T.out (r + 1) (by omega)))
                    have b1 := cellX (cellB B (U.out r (by omega) i hli))
                    have b2 := cellX (cellB B (U.out (len - r) (by omega) _ hp))
                    have b3 := cellX (cellB B (U.out r (by omega) _ hq))
                    have b4 := cellX (cellB B (U.out (r - 1) (by omega) _ hq))
                    have b5 := cellX (cellB B (U.out (r + 1) (by omega) i hli))
                    rw [← g2] at b2
                    generalize (i + r) % len = p at *
                    generalize (i + 1) % len = q at *
                    clear g2
                    generalize eD xs i r = x at *
                    generalize eD xs q r = y at *
                    generalize eD xs q (r - 1) = z at *
                    generalize eD xs i (r + 1) = u at *
                    have G1 : decide (x < 1) = false := decide_eq_false (by omega)
                    have G2 : (x != x) = false := by simp
                    have G3 := wrap_diamond g3
                    clear g1 g3
                    have m0 : (0 : Int) ≤ (r : Int) := by omega
                    have m1 : (r : Int) < (len : Int) + 1 := by omega
                    have m2 : (0 : Int) ≤ (len : Int) - (r : Int) := by omega
                    have m3 : (len : Int) - (r : Int) < (len : Int) + 1 := by omega
                    have m4 : ((len : Int) - (r : Int)).toNat = len - r := by omega
                    have m5 : (0 : Int) ≤ (r : Int) - 1 := by omega
                    have m6 : (r : Int) - 1 < (len : Int) + 1 := by omega
                    have m7 : ((r : Int) - 1).toNat = r - 1 := by omega
                    have m8 : (0 : Int) ≤ (r : Int) + 1 := by omega
                    have m9 : (r : Int) + 1 < (len : Int) + 1 := by omega
                    have ma : ((r : Int) + 1).toNat = r + 1 := by omega
                    have mb : (len : Int) ≠ 0 := by omega
                    have mc : ((len : Int) == 0) = false := by rw [beq_eq_false_iff_ne]; omega
                    go_wp2_with fail
                    refine wp_region_ext (by kernel_rfl) (by kernel_rfl) ?_
                    repeat (go_big_quiet_step (fail))
                    refine wpQuiet_nil ?_
                    rintro ⟨w7, hw7⟩
                    dsimp only
                    replace B := nextB B hw7
                    clear a1 a2 a3 a4 b1 b2 b3 b4 b5 hw7
                    go_wp2_with fail
                    go_roundw
                    case rel => exact ⟨r + 1, by omega, by omega, by go_num, B⟩
                    case measure => simp [intOf]; omega
                  · obtain rfl : r = len := by omega
                    go_wp2_with fail
                    go_roundw
                    case rel => exact ⟨i + 1, by omega, by go_num, B⟩
                    case measure => simp [intOf]; omega
              · obtain rfl : i = len := by omega
                go_wp2_with (go_at_call 17; refine (alive_any _).mono ?_; rintro e w9 ⟨rfl, hb9⟩)
                go_ret
                exact Ret.mk rfl (nextB (nextB hb1 B) hb9)
    · rw [decide_eq_false hR] at K
      clear h hl hR
      go_enter Try.func11, Try.ntmps11
      go_wp2_with (first
        | (go_at_call 44; refine K.out.mono ?_; rintro e w1 ⟨rfl, rfl⟩)
        | (go_at_call 17; refine (alive_any _).mono ?_; rintro e w2 ⟨rfl, hb2⟩))
      go_ret
      exact Ret.mk rfl hb2
  · have hgt : 60 < len := by omega
    clear h60 h hl
    go_enter Try.func11, Try.ntmps11
    go_wp2_with (go_at_call 17; refine (alive_any _).mono ?_; rintro e w2 ⟨rfl, hb2⟩)
    go_ret
    exact Ret.mk rfl hb2
end Go.Proofs.Ytflbaadfbjpakaa
