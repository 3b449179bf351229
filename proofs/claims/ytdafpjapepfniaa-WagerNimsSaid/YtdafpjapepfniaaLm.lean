/- Layer 7, the laws: WagerNims. -/
import Derived.Test.YtdafpjapepfniaaGe
namespace Go.Proofs.Ytdafpjapepfniaa
set_option linter.unusedSimpArgs false
set_option linter.unusedVariables false
open Go Go.RowKit

theorem same_none (W : World) : Calls Try.prog 18 #[.slice none 0 0, .slice none 0 0] W (Ret (.bool true) W) := by
  have := same_any none none 0 0 0 0 [] [] W (.inl rfl) (.inl rfl) rfl rfl (by omega) (by omega)
  rwa [decide_eq_true rfl] at this
set_option maxRecDepth 100000 in
set_option maxHeartbeats 8000000 in
theorem nims_law (a0 b0 : Int) (w : World) : Calls Try.prog 3 #[.int .i64 a0, .int .i64 b0] w (Ret (.bool true) w) := by
  have AL := Lib.hid alive_any
  have SN := Lib.hid same_none
  by_cases ha : HeapP a0
  · have ha0 := ha
    obtain ⟨a1, a2⟩ := ha0
    obtain ⟨a, rfl⟩ : ∃ a : Nat, a0 = a := ⟨a0.toNat, by omega⟩
    have ha' : a ≤ 1099511627776 := by omega
    have S := fun W => Parts_yes a W ha'
    have T := fun W => refParts_yes a W ha'
    have hlen : (fI (zx a)).length ≤ 4611686018427387904 := by
      have := zx_len a ha'
      rw [fI_length]
      omega
    generalize fI (zx a) = L at *
    replace S := Lib.hid S
    replace T := Lib.hid T
    have U : ∃ x e : Int, Hid (∀ W, Calls Try.prog 19 #[.int .i64 (a : Int), .int .i64 b0] W (Ret (numV x e) W)) ∧ Hid (∀ W, Calls Try.prog 20 #[.int .i64 (a : Int), .int .i64 b0] W (Ret (numV x e) W)) := by
      by_cases hb : HeapP b0
      · obtain ⟨b1, b2⟩ := hb
        obtain ⟨b, rfl⟩ : ∃ b : Nat, b0 = b := ⟨b0.toNat, by omega⟩
        obtain ⟨x, e, hx⟩ := nimV_num a b
        exact ⟨x, e, Lib.hid fun W => by have := Nim_yes a b W ha' (by omega); rwa [hx] at this, Lib.hid fun W => by have := refNim_yes a b W ha' (by omega); rwa [hx] at this⟩
      · exact ⟨0, 2, Lib.hid fun W => (Nim_no a b0 W (fun h => hb h.2)).mono fun e w' ⟨h1, h2⟩ => ⟨h1, h2 ▸ Below.refl _ _⟩, Lib.hid fun W => (refNim_no a b0 W (fun h => hb h.2)).mono fun e w' ⟨h1, h2⟩ => ⟨h1, h2 ▸ Below.refl _ _⟩⟩
    have V : ∃ x e : Int, Hid (∀ W, Calls Try.prog 21 #[.int .i64 (a : Int)] W (Ret (numV x e) W)) ∧ Hid (∀ W, Calls Try.prog 22 #[.int .i64 (a : Int)] W (Ret (numV x e) W)) := by
      by_cases h2 : 2 ≤ a
      · obtain ⟨x, e, hx⟩ := nimV_num a (a - 1)
        exact ⟨x, e, Lib.hid fun W => by have := Whole_yes a W h2 ha'; rwa [hx] at this, Lib.hid fun W => by have := refWhole_yes a W h2 ha'; rwa [hx] at this⟩
      · exact ⟨0, 2, Lib.hid fun W => (Whole_no a W (.inl (by omega))).mono fun e w' ⟨h1, h2⟩ => ⟨h1, h2 ▸ Below.refl _ _⟩, Lib.hid fun W => (refWhole_no a W (.inl (by omega))).mono fun e w' ⟨h1, h2⟩ => ⟨h1, h2 ▸ Below.refl _ _⟩⟩
    obtain ⟨x, e, U1, U2⟩ := U
    obtain ⟨y, f, V1, V2⟩ := V
    clear ha
    go_enter Try.func3, Try.ntmps3
    go_wp2_with (first
      | (go_at_call 16; refine (S.out _).mono ?_; rintro e w1 ⟨v, c, rfl, hc, hI, hb2⟩; replace hb2 := Lib.hid hb2; replace hI := Lib.hid hI)
      | (go_at_call 17; refine (T.out _).mono ?_; rintro e w2 ⟨v', c', rfl, hc', hI', hb4⟩; replace hb2 := Lib.hid (nextB hb2.out hb4); replace hI := Lib.hid (hI.out.next hb4); replace hI' := Lib.hid hI')
      | (go_at_call 18; refine (same_any _ _ _ _ _ _ L L _ hI.out hI'.out rfl rfl hlen hlen).mono ?_; rw [decide_eq_true rfl]; rintro e w3 ⟨rfl, hb6⟩; replace hb2 := Lib.hid (nextB hb2.out hb6))
      | (go_at_call 19; (with_reducible refine (U1.out _).mono ?_); rintro e w4 ⟨rfl, hb6⟩; replace hb2 := Lib.hid (nextB hb2.out hb6))
      | (go_at_call 20; (with_reducible refine (U2.out _).mono ?_); rintro e w5 ⟨rfl, hb6⟩; replace hb2 := Lib.hid (nextB hb2.out hb6))
      | (go_at_call 21; (with_reducible refine (V1.out _).mono ?_); rintro e w6 ⟨rfl, hb6⟩; replace hb2 := Lib.hid (nextB hb2.out hb6))
      | (go_at_call 22; (with_reducible refine (V2.out _).mono ?_); rintro e w7 ⟨rfl, hb6⟩; replace hb2 := Lib.hid (nextB hb2.out hb6))
      | (go_at_call 23; refine (AL.out _).mono ?_; rintro e w8 ⟨rfl, hb6⟩))
    go_ret
    exact Ret.mk rfl (nextB hb2.out hb6)
  · have S := Lib.hid (fun W => Parts_no a0 W ha)
    have T := Lib.hid (fun W => refParts_no a0 W ha)
    have U1 := Lib.hid (fun W => Nim_no a0 b0 W (fun h => ha h.1))
    have U2 := Lib.hid (fun W => refNim_no a0 b0 W (fun h => ha h.1))
    have hw : a0 < 2 ∨ 1099511627776 < a0 := by unfold HeapP at ha; omega
    have V1 := Lib.hid (fun W => Whole_no a0 W hw)
    have V2 := Lib.hid (fun W => refWhole_no a0 W hw)
    clear ha hw
    go_enter Try.func3, Try.ntmps3
    go_wp2_with (first
      | (go_at_call 16; (with_reducible refine (S.out _).mono ?_); rintro e w1 ⟨rfl, rfl⟩)
      | (go_at_call 17; (with_reducible refine (T.out _).mono ?_); rintro e w2 ⟨rfl, rfl⟩)
      | (go_at_call 18; (with_reducible refine (SN.out _).mono ?_); rintro e w3 ⟨rfl, hb2⟩; replace hb2 := Lib.hid hb2)
      | (go_at_call 19; (with_reducible refine (U1.out _).mono ?_); rintro e w4 ⟨rfl, rfl⟩)
      | (go_at_call 20; (with_reducible refine (U2.out _).mono ?_); rintro e w5 ⟨rfl, rfl⟩)
      | (go_at_call 21; (with_reducible refine (V1.out _).mono ?_); rintro e w6 ⟨rfl, rfl⟩)
      | (go_at_call 22; (with_reducible refine (V2.out _).mono ?_); rintro e w7 ⟨rfl, rfl⟩)
      | (go_at_call 23; refine (AL.out _).mono ?_; rintro e w8 ⟨rfl, hb6⟩))
    go_ret
    exact Ret.mk rfl (nextB hb2.out hb6)
end Go.Proofs.Ytdafpjapepfniaa
