/- BrandsCuts: Cut and Glue return the lists and errors of the specification: the walk. -/
import Derived.Test.YtflbaadfbjpakaaEy
namespace Go.Proofs.Ytflbaadfbjpakaa
open Go Go.RowKit

set_option maxRecDepth 100000 in
set_option maxHeartbeats 4000000 in
theorem cuts_law (a : Option Addr) (len cap : Nat) (xs : List Int) (c : Int) (w : World) (h : Ints w a xs) (hl : xs.length = len) (hcap : len ≤ cap) (hnil : a = none → cap = 0) :
    Calls Try.prog 7 #[.slice a len cap, .int .i64 c] w (Ret (.bool true) w) := by
  by_cases h60 : len ≤ 60
  · obtain ⟨j0, hi, hz0, hz1, hz2⟩ := info_parts infoInt
    have P0 := Lib.hid hi
    have P1 := Lib.hid hz0
    have P2 := Lib.hid hz1
    have P3 := Lib.hid hz2
    clear hi hz0 hz1 hz2
    have hs1 := cutO_small xs c (by omega)
    have hs2 := glueO_small xs c (by omega)
    have C1 := Lib.hid (fun a1 c1 W (hI : Ints W a1 xs) => Cut_any a1 len c1 c xs W hI hl (by omega))
    have C2 := Lib.hid (fun a1 c1 W (hI : Ints W a1 xs) => refCut_any a1 len c1 c xs W hI hl (by omega))
    have D1 := Lib.hid (fun a1 c1 W (hI : Ints W a1 xs) => Glue_any a1 len c1 c xs W hI hl (by omega))
    have D2 := Lib.hid (fun a1 c1 W (hI : Ints W a1 xs) => refGlue_any a1 len c1 c xs W hI hl (by omega))
    have S := Lib.hid (fun a1 c1 a2 c2 W (hI : Ints W a1 xs) (hI2 : Ints W a2 xs) => show Calls Try.prog 24 #[.slice a1 len c1, .slice a2 len c2] W (Ret (.bool true) W) from by
      have := same_any a1 a2 len len c1 c2 xs xs W hI hI2 hl hl (by omega) (by omega)
      rwa [decide_eq_true rfl] at this)
    have S1 := Lib.hid (fun a1 c1 a2 c2 W (hI : Ints W a1 (cutO xs c)) (hI2 : Ints W a2 (cutO xs c)) => show Calls Try.prog 24 #[.slice a1 (cutO xs c).length c1, .slice a2 (cutO xs c).length c2] W (Ret (.bool true) W) from by
      have := same_any a1 a2 _ _ c1 c2 _ _ W hI hI2 rfl rfl (by omega) (by omega)
      rwa [decide_eq_true rfl] at this)
    have S2 := Lib.hid (fun a1 c1 a2 c2 W (hI : Ints W a1 (glueO xs c)) (hI2 : Ints W a2 (glueO xs c)) => show Calls Try.prog 24 #[.slice a1 (glueO xs c).length c1, .slice a2 (glueO xs c).length c2] W (Ret (.bool true) W) from by
      have := same_any a1 a2 _ _ c1 c2 _ _ W hI hI2 rfl rfl (by omega) (by omega)
      rwa [decide_eq_true rfl] at this)
    unfold GotI at C1 C2 D1 D2
    generalize cutO xs c = ys at *
    generalize glueO xs c = zs at *
    generalize cutE xs c = er1 at *
    generalize glueE xs c = er2 at *
    have hI0 := Lib.hid h
    have hl0 := Lib.hid hl
    have hL2 := Lib.hid (show (lI xs).length = len * 1 by rw [lI_length, hl]; omega)
    have hone := Lib.hid (lI_one xs)
    have start : ∃ (t : Nat), a = none ∨ ∃ ad, a = some ad := ⟨0, by cases a with | none => exact .inl rfl | some ad => exact .inr ⟨ad, rfl⟩⟩
    obtain ⟨_, rfl | ⟨ad, rfl⟩⟩ := start
    · have e2 := hnil rfl
      obtain rfl : len = 0 := by omega
      subst e2
      obtain rfl : xs = [] := List.eq_nil_of_length_eq_zero hl
      go_enter Try.func7, Try.ntmps7
      go_wp2_with (at_builtin; refine wpList_append_own_none rfl _ _ 30 rfl w.heap.size 3 j0 1 Try.underlying30 P0.out _ _ _ rfl (World.ownsRow_made w #[] 0 (Nat.le_refl _) (by decide) rfl) rfl ?_)
      have B0 := b1 w (.cells #[] 3)
      generalize w.alloc (.cells #[] 3) = W1 at *
      have HA := Lib.hid (show Ints W1 none [] from .inl rfl)
      have HB := Lib.hid (show Ints W1 (some ⟨w.heap.size, 0, none⟩) [] from .inl rfl)
      clear hI0 hl0 hL2 hone h hl hnil hcap
      go_wp2_with fail
      refine (C1.out _ _ _ HB.out).mono ?_
      rintro e w2 ⟨a2, c2, rfl, h2, _, hb2⟩
      dsimp only
      go_wp2_with fail
      refine (C2.out _ _ _ (HA.out.next hb2)).mono ?_
      rintro e w3 ⟨a3, c3, rfl, h3, _, hb3⟩
      dsimp only
      replace h2 := h2.next hb3
      replace hb2 := nextB hb2 hb3
      clear hb3
      go_wp2_with fail
      refine (S1.out _ _ _ _ _ h2 h3).mono ?_
      rintro e w4 ⟨rfl, hb4⟩
      dsimp only
      replace hb2 := nextB hb2 hb4
      clear hb4 h2 h3 C1 C2 S1
      go_wp2_with fail
      refine (D1.out _ _ _ (HB.out.next hb2)).mono ?_
      rintro e w5 ⟨a5, c5, rfl, h5, _, hb5⟩
      dsimp only
      replace hb2 := nextB hb2 hb5
      clear hb5
      go_wp2_with fail
      refine (D2.out _ _ _ (HA.out.next hb2)).mono ?_
      rintro e w6 ⟨a6, c6, rfl, h6, _, hb6⟩
      dsimp only
      replace h5 := h5.next hb6
      replace hb2 := nextB hb2 hb6
      clear hb6
      go_wp2_with fail
      refine (S2.out _ _ _ _ _ h5 h6).mono ?_
      rintro e w7 ⟨rfl, hb7⟩
      dsimp only
      replace hb2 := nextB hb2 hb7
      clear hb7 h5 h6 D1 D2 S2
      go_wp2_with fail
      refine (S.out _ _ _ _ _ (HB.out.next hb2) (HA.out.next hb2)).mono ?_
      rintro e w8 ⟨rfl, hb8⟩
      dsimp only
      replace hb2 := nextB hb2 hb8
      clear hb8
      go_wp2_with (go_at_call 17; refine (alive_any _).mono ?_; rintro e w9 ⟨rfl, hb9⟩)
      go_ret
      exact Ret.mk rfl (nextB B0 (nextB hb2 hb9))
    · have src := Lib.hid (ints_src h rfl)
      clear hnil
      go_enter Try.func7, Try.ntmps7
      go_wp2_with (at_builtin; refine wpList_append_own _ rfl _ _ 30 rfl w.heap.size 3 j0 (.int .i64 0) 1 8 Try.underlying30 P0.out P1.out P2.out P3.out rfl (by decide) _ _ _ rfl (World.ownsRow_made w #[] 0 (Nat.le_refl _) (by decide) rfl) ad len cap (lI xs) rfl hL2.out (fun j u hj => cellB (b1 _ _) (src.out j u hj)) hone.out (by unfold maxLen; omega) (by omega) (by simp) ?_; intro v' W1 hown hgrow _; rw [Nat.zero_add, List.nil_append] at hown; obtain ⟨a1, c1, rfl, hc1, hp1⟩ := own_intsA hown hl0.out)
      have B0 : Below w.heap.size w W1 := ((Below.refl _ w).alloc (Nat.le_refl _) _).grown hgrow (by simp) (fun _ h => by cases h; exact Nat.le_refl _)
      have HA := Lib.hid (show Ints W1 (some ad) xs from hI0.out.next B0)
      have HB := Lib.hid hp1
      clear hgrow hown hp1 src hone hL2 hI0 h
      go_wp2_with fail
      refine (C1.out _ _ _ HB.out).mono ?_
      rintro e w2 ⟨a2, c2, rfl, h2, _, hb2⟩
      dsimp only
      go_wp2_with fail
      refine (C2.out _ _ _ (HA.out.next hb2)).mono ?_
      rintro e w3 ⟨a3, c3, rfl, h3, _, hb3⟩
      dsimp only
      replace h2 := h2.next hb3
      replace hb2 := nextB hb2 hb3
      clear hb3
      go_wp2_with fail
      refine (S1.out _ _ _ _ _ h2 h3).mono ?_
      rintro e w4 ⟨rfl, hb4⟩
      dsimp only
      replace hb2 := nextB hb2 hb4
      clear hb4 h2 h3 C1 C2 S1
      go_wp2_with fail
      refine (D1.out _ _ _ (HB.out.next hb2)).mono ?_
      rintro e w5 ⟨a5, c5, rfl, h5, _, hb5⟩
      dsimp only
      replace hb2 := nextB hb2 hb5
      clear hb5
      go_wp2_with fail
      refine (D2.out _ _ _ (HA.out.next hb2)).mono ?_
      rintro e w6 ⟨a6, c6, rfl, h6, _, hb6⟩
      dsimp only
      replace h5 := h5.next hb6
      replace hb2 := nextB hb2 hb6
      clear hb6
      go_wp2_with fail
      refine (S2.out _ _ _ _ _ h5 h6).mono ?_
      rintro e w7 ⟨rfl, hb7⟩
      dsimp only
      replace hb2 := nextB hb2 hb7
      clear hb7 h5 h6 D1 D2 S2
      go_wp2_with fail
      refine (S.out _ _ _ _ _ (HB.out.next hb2) (HA.out.next hb2)).mono ?_
      rintro e w8 ⟨rfl, hb8⟩
      dsimp only
      replace hb2 := nextB hb2 hb8
      clear hb8
      go_wp2_with (go_at_call 17; refine (alive_any _).mono ?_; rintro e w9 ⟨rfl, hb9⟩)
      go_ret
      exact Ret.mk rfl (nextB B0 (nextB hb2 hb9))
  · have hgt : 60 < len := by omega
    clear h60 h hl
    go_enter Try.func7, Try.ntmps7
    go_wp2_with (go_at_call 17; refine (alive_any _).mono ?_; rintro e w2 ⟨rfl, hb2⟩)
    go_ret
    exact Ret.mk rfl hb2
end Go.Proofs.Ytflbaadfbjpakaa
