/- BrandsFlips: Flip returns the brand, or the error, of the specification: the walk. -/
import Derived.Test.YtflbaadfbjpakaaFc
namespace Go.Proofs.Ytflbaadfbjpakaa
open Go Go.RowKit

set_option maxRecDepth 100000 in
set_option maxHeartbeats 1600000 in
theorem refFlip_no (n : Int) (a : Option Addr) (m c : Nat) (L : List (Int × Int)) (i : Int) (w : World) (h : Prs w a L) (hl : L.length = m) (hm : m ≤ 4611686018427387904) (hno : ¬ BrandP n L ∨ i < 0 ∨ (m : Int) ≤ i) :
    Calls Try.prog 41 #[.int .i64 n, .slice a m c, .int .i64 i] w (Ret (.tuple #[.slice none 0 0, .int .i64 2]) w) := by
  have K := Lib.hid (refIsBrand_any n a m c L w h hl hm)
  by_cases hB : BrandP n L
  · rw [decide_eq_true hB] at K
    have hi := hno.resolve_left (fun h => h hB)
    have hcase : i < 0 ∨ (0 ≤ i ∧ (m : Int) ≤ i) := by omega
    clear hB hl h hno hi
    rcases hcase with h1 | ⟨h1, h2⟩
    all_goals (
      go_enter Try.func41, Try.ntmps41
      go_wp2_with (go_at_call 19; refine K.out.mono ?_; rintro e w1 ⟨rfl, hb1⟩)
      go_ret2
      exact Ret.mk rfl hb1)
  · rw [decide_eq_false hB] at K
    clear hB hl h hno
    go_enter Try.func41, Try.ntmps41
    go_wp2_with (go_at_call 19; refine K.out.mono ?_; rintro e w1 ⟨rfl, hb1⟩)
    go_ret2
    exact Ret.mk rfl hb1
set_option maxRecDepth 100000 in
set_option maxHeartbeats 4000000 in
theorem flips_law (n : Int) (a : Option Addr) (len cap : Nat) (L : List (Int × Int)) (i : Int) (w : World) (h : Prs w a L) (hl : L.length = len) (hcap : len ≤ cap) (hnil : a = none → cap = 0) :
    Calls Try.prog 8 #[.int .i64 n, .slice a len cap, .int .i64 i] w (Ret (.bool true) w) := by
  by_cases h60 : len ≤ 60
  · obtain ⟨j0, hi, hz0, hz1, hz2⟩ := info_parts infoPair
    have P0 := Lib.hid hi
    have P1 := Lib.hid hz0
    have P2 := Lib.hid hz1
    have P3 := Lib.hid hz2
    clear hi hz0 hz1 hz2
    obtain ⟨ys, er, hys, C1, C2⟩ : ∃ (ys : List (Int × Int)) (er : Int), ys.length ≤ 100 ∧
        Hid (∀ a1 c1 W, Prs W a1 L → len ≤ c1 → Calls Try.prog 40 #[.int .i64 n, .slice a1 len c1, .int .i64 i] W (fun e w' => ∃ a' c', e = .returned (.tuple #[.slice a' ys.length c', .int .i64 er]) ∧ Prs w' a' ys ∧ Below W.heap.size W w')) ∧
        Hid (∀ a1 c1 W, Prs W a1 L → len ≤ c1 → Calls Try.prog 41 #[.int .i64 n, .slice a1 len c1, .int .i64 i] W (fun e w' => ∃ a' c', e = .returned (.tuple #[.slice a' ys.length c', .int .i64 er]) ∧ Prs w' a' ys ∧ Below W.heap.size W w')) := by
      by_cases hno : ¬ BrandP n L ∨ i < 0 ∨ (len : Int) ≤ i
      · exact ⟨[], 2, by simp, Lib.hid fun a1 c1 W hp hc => (Flip_no n a1 len c1 L i W hp hl hc (by omega) hno).mono fun e w' ⟨h1, h2⟩ => ⟨none, 0, h1, .inl rfl, h2⟩,
          Lib.hid fun a1 c1 W hp hc => (refFlip_no n a1 len c1 L i W hp hl (by omega) hno).mono fun e w' ⟨h1, h2⟩ => ⟨none, 0, h1, .inl rfl, h2⟩⟩
      · have hB : BrandP n L := Classical.byContradiction fun hh => hno (.inl hh)
        obtain ⟨n, rfl⟩ : ∃ k : Nat, n = k := ⟨n.toNat, by have := hB.1; omega⟩
        obtain ⟨i, rfl⟩ : ∃ k : Nat, i = k := ⟨i.toNat, by omega⟩
        have hil : i < L.length := by omega
        have hfl := flipL_length n L i hil
        refine ⟨flipL n L i, 0, by omega, Lib.hid fun a1 c1 W hp hc => (Flip_yes n a1 len c1 L i W hp hl hc hB (by omega) (flip_facts hB hil).2.1).mono fun e w' ⟨a', c', h1, h2, _, h4⟩ => ⟨a', c', by rw [h1, hfl], h2, h4⟩,
          Lib.hid fun a1 c1 W hp hc => (refFlip_yes n a1 len c1 L i W hp hl hc hB (by omega)).mono fun e w' ⟨a', c', h1, h2, _, h4⟩ => ⟨a', c', by rw [h1, hfl, hl], h2, h4⟩⟩
    have S := Lib.hid (fun a1 c1 a2 c2 W (hI : Prs W a1 L) (hI2 : Prs W a2 L) => show Calls Try.prog 25 #[.slice a1 len c1, .slice a2 len c2] W (Ret (.bool true) W) from by
      have := pairs_any a1 a2 len len c1 c2 L L W hI hI2 hl hl (by omega) (by omega)
      rwa [decide_eq_true rfl] at this)
    have S1 := Lib.hid (fun a1 c1 a2 c2 W (hI : Prs W a1 ys) (hI2 : Prs W a2 ys) => show Calls Try.prog 25 #[.slice a1 ys.length c1, .slice a2 ys.length c2] W (Ret (.bool true) W) from by
      have := pairs_any a1 a2 _ _ c1 c2 _ _ W hI hI2 rfl rfl (by omega) (by omega)
      rwa [decide_eq_true rfl] at this)
    have hp := Lib.hid (show PartOk w ⟨a, len, cap, L⟩ from ⟨h, hl, hnil⟩)
    have hL2 := Lib.hid (show (cP L).length = len * 2 by rw [cP_length, hl])
    have hone := Lib.hid (cP_one L)
    have hlr : Hid (len = L.length) := Lib.hid hl.symm
    have start : a = none ∨ ∃ ad, a = some ad := by cases a with | none => exact .inl rfl | some ad => exact .inr ⟨ad, rfl⟩
    rcases start with rfl | ⟨ad, rfl⟩
    · have e2 := hnil rfl
      obtain rfl : len = 0 := by omega
      subst e2
      obtain rfl : L = [] := List.eq_nil_of_length_eq_zero hl
      go_enter Try.func8, Try.ntmps8
      go_wp2_with (at_builtin; refine wpList_append_own_none rfl _ _ 22 rfl w.heap.size 60 j0 2 Try.underlying22 P0.out _ _ _ rfl (World.ownsRow_made w #[] 0 (Nat.le_refl _) (by decide) rfl) rfl ?_)
      have B0 := b1 w (.cells #[] 60)
      generalize w.alloc (.cells #[] 60) = W1 at *
      have HA := Lib.hid (show Prs W1 none [] from .inl rfl)
      have HB := Lib.hid (show Prs W1 (some ⟨w.heap.size, 0, none⟩) [] from .inl rfl)
      have hc1 : 0 ≤ 0 := Nat.le_refl _
      clear hp hlr hL2 hone h hl hnil hcap
      go_wp2_with fail
      refine (C1.out _ _ _ HB.out hc1).mono ?_
      rintro e w2 ⟨a2, c2, rfl, h2, hb2⟩
      dsimp only
      go_wp2_with fail
      refine (C2.out _ _ _ (HA.out.next hb2) (by omega)).mono ?_
      rintro e w3 ⟨a3, c3, rfl, h3, hb3⟩
      dsimp only
      replace h2 := h2.next hb3
      replace hb2 := nextB hb2 hb3
      clear hb3
      go_wp2_with fail
      refine (S1.out _ _ _ _ _ h2 h3).mono ?_
      rintro e w4 ⟨rfl, hb4⟩
      dsimp only
      replace hb2 := nextB hb2 hb4
      clear hb4 h2 h3 C1 C2 S1
      go_wp2_with fail
      refine (S.out _ _ _ _ _ (HB.out.next hb2) (HA.out.next hb2)).mono ?_
      rintro e w8 ⟨rfl, hb8⟩
      dsimp only
      replace hb2 := nextB hb2 hb8
      clear hb8
      go_wp2_with (go_at_call 17; refine (alive_any _).mono ?_; rintro e w9 ⟨rfl, hb9⟩)
      go_ret
      exact Ret.mk rfl (nextB B0 (nextB hb2 hb9))
    · have src := Lib.hid (part_src hp.out rfl)
      clear hnil hl
      go_enter Try.func8, Try.ntmps8
      go_wp2_with (at_builtin; refine wpList_append_own _ rfl _ _ 22 rfl w.heap.size 60 j0 (.agg #[.int .i64 0, .int .i64 0]) 2 16 Try.underlying22 P0.out P1.out P2.out P3.out rfl (by decide) _ _ _ rfl (World.ownsRow_made w #[] 0 (Nat.le_refl _) (by decide) rfl) ad len cap (cP L) rfl hL2.out (fun j u hj => cellB (b1 _ _) (src.out j u hj)) hone.out (by unfold maxLen; omega) (by omega) (by simp) ?_; intro v' W1 hown hgrow _; rw [Nat.zero_add, List.nil_append, hlr.out] at hown; obtain ⟨a1, c1, rfl, hc1, hp1⟩ := own_prs hown)
      have B0 : Below w.heap.size w W1 := ((Below.refl _ w).alloc (Nat.le_refl _) _).grown hgrow (by simp) (fun _ h => by cases h; exact Nat.le_refl _)
      have HA := Lib.hid (show Prs W1 (some ad) L from hp.out.1.next B0)
      have HB := Lib.hid hp1
      rw [← hlr.out] at hc1
      rw [← hlr.out]
      clear hgrow hown hp1 src hone hL2 h hp hlr
      go_wp2_with fail
      refine (C1.out _ _ _ HB.out hc1).mono ?_
      rintro e w2 ⟨a2, c2, rfl, h2, hb2⟩
      dsimp only
      go_wp2_with fail
      refine (C2.out _ _ _ (HA.out.next hb2) (by omega)).mono ?_
      rintro e w3 ⟨a3, c3, rfl, h3, hb3⟩
      dsimp only
      replace h2 := h2.next hb3
      replace hb2 := nextB hb2 hb3
      clear hb3
      go_wp2_with fail
      refine (S1.out _ _ _ _ _ h2 h3).mono ?_
      rintro e w4 ⟨rfl, hb4⟩
      dsimp only
      replace hb2 := nextB hb2 hb4
      clear hb4 h2 h3 C1 C2 S1
      go_wp2_with fail
      refine (S.out _ _ _ _ _ (HB.out.next hb2) (HA.out.next hb2)).mono ?_
      rintro e w8 ⟨rfl, hb8⟩
      dsimp only
      replace hb2 := nextB hb2 hb8
      clear hb8
      go_wp2_with (go_at_call 17; refine (alive_any _).mono ?_; rintro e w9 ⟨rfl, hb9⟩)
      go_ret
      exact Ret.mk rfl (nextB B0 (nextB hb2 hb9))
  · have hgt : 60 < len := by omega
    clear h60 h hl
    go_enter Try.func8, Try.ntmps8
    go_wp2_with (go_at_call 17; refine (alive_any _).mono ?_; rintro e w2 ⟨rfl, hb2⟩)
    go_ret
    exact Ret.mk rfl hb2
end Go.Proofs.Ytflbaadfbjpakaa
