/- Layer 5, by the specification: least, size, Joined, Knot. -/
import Derived.Test.YtmejahoodeeijaaGreatDoorPd
import Derived.Test.YtmejahoodeeijaaGreatDoorJb
namespace Go.Proofs.YtmejahoodeeijaaGreatDoor
open Go Go.RowKit

theorem tri8_of {m : Nat} {t : T3} (h : isT m t = true) (hm : m ≤ 8) : Tri8 t := by
  unfold isT beaB at h
  simp only [Bool.and_eq_true, decide_eq_true_eq] at h
  obtain ⟨a, b, c⟩ := t
  dsimp only at h
  exact ⟨a.toNat, b.toNat, c.toNat, by simp only [Prod.mk.injEq]; omega, by omega, by omega, by omega⟩
set_option maxRecDepth 100000 in
theorem refLeast_any (s : Nat) (hs : s < 512) (h0 : s ≠ 0) (w : World) : Calls Tryz.prog 80 #[.int .i64 (s : Nat)] w (Only (.int .i64 (lowB s : Nat)) w) := by
  obtain ⟨l1, l2⟩ := low_is hs h0
  have h9 := (bits_step s hs (Nat.pos_of_ne_zero h0)).2.1
  generalize lowB s = b at *
  replace l2 := Lib.hid l2
  go_enter Tryz.func80, Tryz.ntmps80
  go_wp2
  go_loop [3] (fun i => ∃ k : Nat, k ≤ b ∧ i = .int .i64 k) (fun i => b + 1 - (intOf i).toNat)
  case atStart => exact ⟨0, by omega, rfl⟩
  case round =>
    obtain ⟨k, hk, rfl⟩ := hrel
    have rm := shr_bit s k
    by_cases hlt : k < b
    · rw [l2.out k hlt] at rm
      simp only [Bool.false_eq_true, if_false] at rm
      go_wp2
      go_round
      case rel => exact ⟨k + 1, by omega, by go_num⟩
      case measure => simp [intOf]; omega
    · obtain rfl : k = b := by omega
      rw [l1] at rm
      simp only [if_true] at rm
      go_wp2
      go_ret
      exact Only.mk rfl
theorem cnt_stop : ((List.range 512).all fun s => (List.range 10).all fun k => decide (s / 2 ^ k = 0 → cntF s k = cntF s 9)) = true := by decide +kernel
theorem cnt_stop' {s k : Nat} (hs : s < 512) (hk : k ≤ 9) (h : s / 2 ^ k = 0) : cntF s k = cntF s 9 := by
  have h1 := List.all_eq_true.1 cnt_stop s (List.mem_range.2 hs)
  have h2 := List.all_eq_true.1 h1 k (List.mem_range.2 (by omega))
  exact (of_decide_eq_true h2) h
set_option maxRecDepth 100000 in
theorem refSize_any (s : Nat) (hs : s < 512) (w : World) : Calls Tryz.prog 62 #[.int .i64 (s : Nat)] w (Only (.int .i64 (cntF s 9 : Nat)) w) := by
  go_enter Tryz.func62, Tryz.ntmps62
  go_wp2
  go_loop [0, 3] (fun z n => ∃ k : Nat, k ≤ 9 ∧ z = .int .i64 ((s / 2 ^ k : Nat) : Int) ∧ n = .int .i64 ((cntF s k : Nat) : Int)) (fun z _ => (intOf z).toNat)
  case atStart => exact ⟨0, by omega, by simp, rfl⟩
  case round =>
    obtain ⟨k, hk, rfl, rfl⟩ := hrel
    have hcl := cntF_le s k
    have hle : s / 2 ^ k ≤ s := Nat.div_le_self _ _
    have eC : cntF s (k + 1) = cntF s k + bt s k := rfl
    have eD : s / 2 ^ (k + 1) = s / 2 ^ k / 2 := by rw [Nat.pow_succ, Nat.div_div_eq_div_mul]
    have hst := cnt_stop' (k := k) hs hk
    have hbt : bt s k = s / 2 ^ k % 2 := rfl
    have h9 : k = 9 → s / 2 ^ k = 0 := by rintro rfl; exact Nat.div_eq_of_lt hs
    rw [hbt] at eC
    replace eC := Lib.hid eC
    replace eD := Lib.hid eD
    generalize s / 2 ^ k = u at *
    by_cases h0 : 0 < u
    · have i0 : (0 : Int) < (u : Int) := by omega
      have rm : (u : Int).tmod 2 = ((u % 2 : Nat) : Int) := by rw [Int.tmod_eq_emod_of_nonneg (by omega)]; omega
      have dv : (u : Int).tdiv 2 = ((u / 2 : Nat) : Int) := by rw [Int.tdiv_eq_ediv_of_nonneg (by omega)]; omega
      go_wp2
      go_round
      case rel => exact ⟨k + 1, by omega, by rw [eD.out]; simp only [Value.int.injEq, true_and]; omega, by rw [eC.out]; simp only [Value.int.injEq, true_and]; omega⟩
      case measure => simp [intOf]; omega
    · obtain rfl : u = 0 := by omega
      rw [hst rfl]
      rw [show ((0 : Nat) : Int) = 0 from rfl]
      go_wp2
      go_ret
      exact Only.mk rfl
set_option maxRecDepth 100000 in
set_option maxHeartbeats 2000000 in
theorem refJoined_any (n x : Int) (a : Option Addr) (l c : Nat) (L : List T3) (w : World) (hTr : Trips w a L) (hl : L.length = l) (hl9 : l ≤ 1000) :
    Calls Tryz.prog 30 #[.int .i64 n, .slice a l c, .int .i64 x] w (JoinR (joiE n L x) w) := by
  have G := refGiven_any n a l c L w hTr hl hl9
  unfold joiE
  by_cases h0 : memE n L = 0
  · rw [h0] at G
    rw [if_pos h0]
    obtain ⟨m, rfl, h1, h8, hok, _⟩ := memE_ok h0
    rw [Int.toNat_natCast]
    have sh := wrap_shl (k := m) (by omega)
    have hp := pw_mono (k := 8) h8
    have h256 : pw 8 = 256 := rfl
    by_cases hs : stB m x
    · rw [if_pos hs]
      unfold stB at hs
      simp only [Bool.and_eq_true, decide_eq_true_eq] at hs
      obtain ⟨s, rfl⟩ : ∃ s : Nat, x = (s : Int) := ⟨x.toNat, by omega⟩
      rw [Int.toNat_natCast]
      have hs8 : s < 256 := by omega
      have P := Lib.hid (fun W hW => refParts_any a l c L s W hW hl hl9 (fun t ht => tri8_of (hok t ht) h8) hs8)
      have J := Lib.hid (fun W a2 c2 (h2 : Sets W a2 (outL L s)) => refAsc_any a2 (outL L s).length c2 (outL L s) W h2 rfl (by have := outF_len (labL L s) s 8; unfold outL; omega))
      have E := Lib.hid (fun (M : List El) (hp : M.Perm (elS (outL L s))) (hs : SortedE M) => show cE M = lN (partsL L s) ∧ (outL L s).length = (partsL L s).length from by
        have hh := sorted_sets (ps := joinP L s) (hp.trans ((out_perm hs8).map _)) hs
        exact ⟨hh.1, out_len hs8⟩)
      have i1 : ¬ (s : Int) < 1 := by omega
      have i2 : ¬ ((pw m : Nat) : Int) ≤ (s : Int) := by have := pw_pos m; omega
      replace G := Lib.hid G
      replace hTr := Lib.hid hTr
      clear hs hl hok
      generalize pw m = f at *
      generalize outL L s = ol at *
      generalize partsL L s = pl at *
      go_enter Tryz.func30, Tryz.ntmps30
      go_wp2_with (first
        | (go_at_call 58; (with_reducible refine G.out.mono ?_); rintro e w1 ⟨rfl, hb1⟩)
        | (go_at_call 63; (with_reducible refine (P.out _ (hTr.out.next hb1)).mono ?_); rintro e w3 ⟨v3, rfl, ho3, hb3⟩; obtain ⟨a3, c3, rfl, hc3, hS3⟩ := own_sets ho3 rfl)
        | (go_at_call 65; (with_reducible refine (J.out _ _ _ hS3).mono ?_); rintro e w4 ⟨v4, rfl, M, hpM, hsM, ho4, hb4⟩; replace ho4 := Lib.hid ho4; replace hpM := Lib.hid hpM; replace hsM := Lib.hid hsM))
      go_ret2
      have B3 := nextB hb1 hb3
      obtain ⟨e1, e2⟩ := E.out M hpM.out hsM.out
      refine ⟨_, rfl, ?_, nextB B3 hb4⟩
      dsimp only
      rw [← e2, ← e1]
      exact owns_base ho4.out B3.size
    · rw [if_neg hs]
      unfold stB at hs
      simp only [Bool.and_eq_true, decide_eq_true_eq] at hs
      have hpp := pw_pos m
      replace G := Lib.hid G
      clear hl hok
      by_cases i1 : x < 1
      · go_enter Tryz.func30, Tryz.ntmps30
        go_wp2_with (first
          | (go_at_call 58; (with_reducible refine G.out.mono ?_); rintro e w1 ⟨rfl, hb1⟩))
        go_ret2
        exact ⟨_, rfl, World.ownsRow_nil _ _ _ _, hb1⟩
      · have i1' : ¬ x < 1 := i1
        have i2 : ((pw m : Nat) : Int) ≤ x := by omega
        generalize pw m = f at *
        go_enter Tryz.func30, Tryz.ntmps30
        go_wp2_with (first
          | (go_at_call 58; (with_reducible refine G.out.mono ?_); rintro e w1 ⟨rfl, hb1⟩))
        go_ret2
        exact ⟨_, rfl, World.ownsRow_nil _ _ _ _, hb1⟩
  · rw [if_neg h0]
    have h0b : (memE n L != 0) = true := by rw [bne_iff_ne]; exact h0
    have h0c : (memE n L == 0) = false := by rw [beq_eq_false_iff_ne]; exact h0
    generalize memE n L = r at *
    clear hl
    replace G := Lib.hid G
    go_enter Tryz.func30, Tryz.ntmps30
    go_wp2_with (first
      | (go_at_call 58; (with_reducible refine G.out.mono ?_); rintro e w1 ⟨rfl, hb1⟩))
    go_ret2
    exact ⟨_, rfl, World.ownsRow_nil _ _ _ _, hb1⟩
end Go.Proofs.YtmejahoodeeijaaGreatDoor
