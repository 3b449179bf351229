/- Layer 7, the laws: WagerEuclids. -/
import Derived.Test.YtdafpjapepfniaaWz
namespace Go.Proofs.Ytdafpjapepfniaa
set_option linter.unusedSimpArgs false
set_option linter.unusedVariables false
open Go Go.RowKit

theorem eucV_two (a b : Nat) : ∃ x y e : Int, eucV a b = twoV x y e := by
  unfold eucV
  cases eucR a b with
  | none => exact ⟨_, _, _, rfl⟩
  | some h => exact ⟨_, _, _, rfl⟩
set_option maxRecDepth 100000 in
set_option maxHeartbeats 4000000 in
theorem euclids_law (a0 b0 : Int) (w : World) : Calls Try.prog 4 #[.int .i64 a0, .int .i64 b0] w (Ret (.bool true) w) := by
  have AL := Lib.hid alive_any
  by_cases h : HeapP a0 ∧ HeapP b0
  · obtain ⟨⟨a1, a2⟩, b1, b2⟩ := h
    obtain ⟨a, rfl⟩ : ∃ a : Nat, a0 = a := ⟨a0.toNat, by omega⟩
    obtain ⟨b, rfl⟩ : ∃ b : Nat, b0 = b := ⟨b0.toNat, by omega⟩
    have ha : a ≤ 1099511627776 := by omega
    have hb : b ≤ 1099511627776 := by omega
    clear a1 a2 b1 b2
    have E := fun W => Euclid_yes a b W ha hb
    have F := fun W => refEuclid_yes a b W ha hb
    obtain ⟨x, y, e, hE⟩ := eucV_two a b
    rw [hE] at E F
    replace E := Lib.hid E
    replace F := Lib.hid F
    have S := fun W => Steps_yes a b W ha hb
    have T := fun W => refSteps_yes a b W ha hb
    have hlen : (nI (qs (max a b) (min a b))).length ≤ 4611686018427387904 := by
      have := qs_len (min a b) (max a b) (min a b) (Nat.le_refl _)
      rw [nI_length]
      omega
    clear hE
    generalize nI (qs (max a b) (min a b)) = L at *
    replace S := Lib.hid S
    replace T := Lib.hid T
    go_enter Try.func4, Try.ntmps4
    go_wp2_with (first
      | (go_at_call 24; refine (E.out _).mono ?_; rintro e w2 ⟨rfl, hb2⟩; replace hb2 := Lib.hid hb2)
      | (go_at_call 25; (with_reducible refine (F.out _).mono ?_); rintro e w3 ⟨rfl, rfl⟩)
      | (go_at_call 26; refine (S.out _).mono ?_; rintro e w4 ⟨v, c, rfl, hc, hI, hb3⟩; replace hb2 := Lib.hid (nextB hb2.out hb3); replace hI := Lib.hid hI)
      | (go_at_call 27; refine (T.out _).mono ?_; rintro e w5 ⟨v', c', rfl, hc', hI', hb4⟩; replace hb2 := Lib.hid (nextB hb2.out hb4); replace hI := Lib.hid (hI.out.next hb4); replace hI' := Lib.hid hI')
      | (go_at_call 18; refine (same_any _ _ _ _ _ _ L L _ hI.out hI'.out rfl rfl hlen hlen).mono ?_; rw [decide_eq_true rfl]; rintro e w6 ⟨rfl, hb6⟩; replace hb2 := Lib.hid (nextB hb2.out hb6))
      | (go_at_call 23; refine (AL.out _).mono ?_; rintro e w6 ⟨rfl, hb6⟩))
    go_ret
    exact Ret.mk rfl (nextB hb2.out hb6)
  · have E := Lib.hid (fun W => Euclid_no a0 b0 W h)
    have F := Lib.hid (fun W => refEuclid_no a0 b0 W h)
    have S := Lib.hid (fun W => Steps_no a0 b0 W h)
    have T := Lib.hid (fun W => refSteps_no a0 b0 W h)
    clear h
    go_enter Try.func4, Try.ntmps4
    go_wp2_with (first
      | (go_at_call 24; (with_reducible refine (E.out _).mono ?_); rintro e w2 ⟨rfl, rfl⟩)
      | (go_at_call 25; (with_reducible refine (F.out _).mono ?_); rintro e w3 ⟨rfl, rfl⟩)
      | (go_at_call 26; (with_reducible refine (S.out _).mono ?_); rintro e w4 ⟨rfl, rfl⟩)
      | (go_at_call 27; (with_reducible refine (T.out _).mono ?_); rintro e w5 ⟨rfl, rfl⟩)
      | (go_at_call 18; refine (same_any none none 0 0 0 0 [] [] _ (.inl rfl) (.inl rfl) rfl rfl (by omega) (by omega)).mono ?_; rw [decide_eq_true rfl]; rintro e w6 ⟨rfl, hb6⟩; replace hb6 := Lib.hid hb6)
      | (go_at_call 23; refine (AL.out _).mono ?_; rintro e w7 ⟨rfl, hb7⟩))
    go_ret
    exact Ret.mk rfl (nextB hb6.out hb7)
end Go.Proofs.Ytdafpjapepfniaa
