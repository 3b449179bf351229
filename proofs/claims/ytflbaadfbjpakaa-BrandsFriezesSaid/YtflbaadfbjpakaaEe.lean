/- Layer 2: Closed, by both sides. -/
import Derived.Test.YtflbaadfbjpakaaEd
namespace Go.Proofs.Ytflbaadfbjpakaa
open Go Go.RowKit

instance (xs : List Int) : Decidable (ClosedP xs) := by unfold ClosedP; infer_instance
/-- What Closed returns. -/
def closE (xs : List Int) : Value := if RoundP xs then .tuple #[.bool (decide (ClosedP xs)), .int .i64 0] else .tuple #[.bool false, .int .i64 2]
set_option maxRecDepth 100000 in
set_option maxHeartbeats 1600000 in
theorem Closed_any (a : Option Addr) (n cp : Nat) (xs : List Int) (w : World) (h : Ints w a xs) (hn : xs.length = n) (hm : n ≤ 4611686018427387904) :
    Calls Try.prog 28 #[.slice a n cp] w (Ret (closE xs) w) := by
  have K := Lib.hid (isRound_any a n cp xs w h hn hm)
  by_cases hR : RoundP xs
  · rw [decide_eq_true hR] at K
    have h3 := hR.1
    have h12 := hR.2.1
    obtain ⟨b, off, rfl, hc⟩ := ints_at h (by omega)
    rw [hn] at hc
    have A := Lib.hid (numbersOf_any b off n cp xs w hR hn hc)
    have hn12 : n ≤ 12 := by omega
    have hcl : Hid (ClosedP xs ↔ ∀ i, i < n → eD xs i (n - 1) = 1 ∧ eD xs i n = 0) := Lib.hid (by unfold ClosedP; rw [hn])
    have hup := Lib.hid (fun i d (hi : i < n) (hd : d ≤ n) => upN_at xs n n i d hi hd)
    have hE : closE xs = .tuple #[.bool (decide (ClosedP xs)), .int .i64 0] := by unfold closE; rw [if_pos hR]
    rw [hE]
    clear hE h hR hn hc
    generalize hD : decide (ClosedP xs) = dd at *
    have hT : Hid (dd = true ↔ ∀ i, i < n → eD xs i (n - 1) = 1 ∧ eD xs i n = 0) := Lib.hid (by rw [← hD, decide_eq_true_iff]; exact hcl.out)
    clear hD hcl
    go_enter Try.func28, Try.ntmps28
    go_wp2_with (first
      | (go_at_call 54; refine K.out.mono ?_; rintro e w1 ⟨rfl, rfl⟩)
      | (go_at_call 57; refine A.out.mono ?_; rintro e w1 ⟨B, c, rfl, hN, B0⟩))
    go_loop [15] (fun i => ∃ k : Nat, k ≤ n ∧ i = .int .i64 k ∧ (∀ j, j < k → eD xs j (n - 1) = 1 ∧ eD xs j n = 0)) (fun i => n - (intOf i).toNat)
    case atStart => exact ⟨0, by omega, rfl, fun j hj => by omega⟩
    case round =>
      obtain ⟨k, hk, rfl, hall⟩ := hrel
      replace hall := Lib.hid hall
      by_cases hlt : k < n
      · have l1 := hN.look (i := k) (k := (k : Int) + n - 1) (wf_bd (by omega) (by omega)) (wf_bd (by omega) (by omega))
        have l2 := hN.look (i := k) (k := (k : Int) + n) (wf_bd (by omega) (by omega)) (wf_bd (by omega) (by omega))
        rw [hup.out k (n - 1) hlt (by omega) _ _ rfl (by omega)] at l1
        rw [hup.out k n hlt (by omega) _ _ rfl (by omega)] at l2
        have hT' := Lib.hid (fun hh => hT.out.1 hh k hlt)
        have hnx : Hid (eD xs k (n - 1) = 1 → eD xs k n = 0 → ∀ j, j < k + 1 → eD xs j (n - 1) = 1 ∧ eD xs j n = 0) := Lib.hid fun h1 h2 j hj => by
          by_cases e : j = k
          · subst e; exact ⟨h1, h2⟩
          · exact hall.out j (by omega)
        generalize eD xs k (n - 1) = y1 at *
        generalize eD xs k n = y2 at *
        have hcase : (y1 != 1) = true ∨ ((y1 != 1) = false ∧ (y2 != 0) = true) ∨ ((y1 != 1) = false ∧ (y2 != 0) = false) := by
          simp only [bne_iff_ne, bne_eq_false_iff_eq, ne_eq]
          omega
        rcases hcase with g1 | ⟨g1, g2⟩ | ⟨g1, g2⟩
        · go_wp2
          go_ret2
          have hf : dd = false := by
            cases hdd : dd with
            | false => rfl
            | true => have := (hT'.out hdd).1; simp [this] at g1
          exact Ret.mk (by rw [hf]; rfl) B0
        · go_wp2
          go_ret2
          have hf : dd = false := by
            cases hdd : dd with
            | false => rfl
            | true => have := (hT'.out hdd).2; simp [this] at g2
          exact Ret.mk (by rw [hf]; rfl) B0
        · have e1 := Lib.hid (hnx.out (by simpa using g1) (by simpa using g2))
          go_wp2
          go_round
          case rel => exact ⟨k + 1, by omega, by go_num, e1.out⟩
          case measure => simp [intOf]; omega
      · obtain rfl : k = n := by omega
        have ht : dd = true := hT.out.2 hall.out
        subst ht
        go_wp2
        go_ret2
        exact Ret.mk rfl B0
  · rw [decide_eq_false hR] at K
    have hE : closE xs = .tuple #[.bool false, .int .i64 2] := by unfold closE; rw [if_neg hR]
    rw [hE]
    clear hE h hR hn
    go_enter Try.func28, Try.ntmps28
    go_wp2_with (go_at_call 54; refine K.out.mono ?_; rintro e w1 ⟨rfl, rfl⟩)
    go_ret2
    exact Ret.mk rfl (Below.refl _ _)
set_option maxRecDepth 100000 in
set_option maxHeartbeats 1600000 in
theorem refClosed_any (a : Option Addr) (n cp : Nat) (xs : List Int) (w : World) (h : Ints w a xs) (hn : xs.length = n) (hm : n ≤ 4611686018427387904) :
    Calls Try.prog 29 #[.slice a n cp] w (Only (closE xs) w) := by
  have K := Lib.hid (refIsRound_any a n cp xs w h hn hm)
  by_cases hR : RoundP xs
  · rw [decide_eq_true hR] at K
    have h3 := hR.1
    have h12 := hR.2.1
    obtain ⟨b, off, rfl, hc⟩ := ints_at h (by omega)
    rw [hn] at hc
    have E1 := Lib.hid (fun i (hi : i < n) => show Calls Try.prog 58 #[.slice (some ⟨b, off, none⟩) n cp, .int .i64 i, .int .i64 ((i : Int) + n - 1)] w (Only (.int .i64 (eD xs i (n - 1))) w) from by
      have := refE_any b off n cp i (n - 1) xs w hR hn hi (by omega) hc
      rwa [show (i : Int) + ((n - 1 : Nat) : Int) = (i : Int) + n - 1 by omega] at this)
    have E2 := Lib.hid (fun i (hi : i < n) => refE_any b off n cp i n xs w hR hn hi (by omega) hc)
    have hn12 : n ≤ 12 := by omega
    have hcl : Hid (ClosedP xs ↔ ∀ i, i < n → eD xs i (n - 1) = 1 ∧ eD xs i n = 0) := Lib.hid (by unfold ClosedP; rw [hn])
    have hE : closE xs = .tuple #[.bool (decide (ClosedP xs)), .int .i64 0] := by unfold closE; rw [if_pos hR]
    rw [hE]
    clear hE h hR hn hc
    generalize hD : decide (ClosedP xs) = dd at *
    have hT : Hid (dd = true ↔ ∀ i, i < n → eD xs i (n - 1) = 1 ∧ eD xs i n = 0) := Lib.hid (by rw [← hD, decide_eq_true_iff]; exact hcl.out)
    clear hD hcl
    go_enter Try.func29, Try.ntmps29
    go_wp2_with (go_at_call 44; refine K.out.mono ?_; rintro e w1 ⟨rfl, rfl⟩)
    go_loop [5] (fun i => ∃ k : Nat, k ≤ n ∧ i = .int .i64 k ∧ (∀ j, j < k → eD xs j (n - 1) = 1 ∧ eD xs j n = 0)) (fun i => n - (intOf i).toNat)
    case atStart => exact ⟨0, by omega, rfl, fun j hj => by omega⟩
    case round =>
      obtain ⟨k, hk, rfl, hall⟩ := hrel
      replace hall := Lib.hid hall
      by_cases hlt : k < n
      · have F1 := Lib.hid (E1.out k hlt)
        have F2 := Lib.hid (E2.out k hlt)
        have hT' := Lib.hid (fun hh => hT.out.1 hh k hlt)
        have hnx : Hid (eD xs k (n - 1) = 1 → eD xs k n = 0 → ∀ j, j < k + 1 → eD xs j (n - 1) = 1 ∧ eD xs j n = 0) := Lib.hid fun h1 h2 j hj => by
          by_cases e : j = k
          · subst e; exact ⟨h1, h2⟩
          · exact hall.out j (by omega)
        generalize eD xs k (n - 1) = y1 at *
        generalize eD xs k n = y2 at *
        have hcase : (y1 != 1) = true ∨ ((y1 != 1) = false ∧ (y2 != 0) = true) ∨ ((y1 != 1) = false ∧ (y2 != 0) = false) := by
          simp only [bne_iff_ne, bne_eq_false_iff_eq, ne_eq]
          omega
        rcases hcase with g1 | ⟨g1, g2⟩ | ⟨g1, g2⟩
        · go_wp2_with (go_at_call 58; refine F1.out.mono ?_; rintro e w1 ⟨rfl, rfl⟩)
          go_ret2
          have hf : dd = false := by
            cases hdd : dd with
            | false => rfl
            | true => have := (hT'.out hdd).1; simp [this] at g1
          exact Only.mk (by rw [hf]; rfl)
        · go_wp2_with (first
            | (go_at_call 58; (with_reducible refine F1.out.mono ?_); rintro e w1 ⟨rfl, rfl⟩)
            | (go_at_call 58; (with_reducible refine F2.out.mono ?_); rintro e w1 ⟨rfl, rfl⟩))
          go_ret2
          have hf : dd = false := by
            cases hdd : dd with
            | false => rfl
            | true => have := (hT'.out hdd).2; simp [this] at g2
          exact Only.mk (by rw [hf]; rfl)
        · have e1 := Lib.hid (hnx.out (by simpa using g1) (by simpa using g2))
          go_wp2_with (first
            | (go_at_call 58; (with_reducible refine F1.out.mono ?_); rintro e w1 ⟨rfl, rfl⟩)
            | (go_at_call 58; (with_reducible refine F2.out.mono ?_); rintro e w1 ⟨rfl, rfl⟩))
          go_round
          case rel => exact ⟨k + 1, by omega, by go_num, e1.out⟩
          case measure => simp [intOf]; omega
      · obtain rfl : k = n := by omega
        have ht : dd = true := hT.out.2 hall.out
        subst ht
        go_wp2
        go_ret2
        exact Only.mk rfl
  · rw [decide_eq_false hR] at K
    have hE : closE xs = .tuple #[.bool false, .int .i64 2] := by unfold closE; rw [if_neg hR]
    rw [hE]
    clear hE h hR hn
    go_enter Try.func29, Try.ntmps29
    go_wp2_with (go_at_call 44; refine K.out.mono ?_; rintro e w1 ⟨rfl, rfl⟩)
    go_ret2
    exact Only.mk rfl
end Go.Proofs.Ytflbaadfbjpakaa
