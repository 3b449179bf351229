/- BrandsOf: Of and Closed return the lines, the judgement and the errors of the specification: the walk. -/
import Derived.Test.YtflbaadfbjpakaaFd
import Derived.Test.YtflbaadfbjpakaaEy
namespace Go.Proofs.Ytflbaadfbjpakaa
open Go Go.RowKit

set_option maxRecDepth 100000 in
set_option maxHeartbeats 1600000 in
theorem refOf_no (a : Option Addr) (n c : Nat) (xs : List Int) (w : World) (h : Ints w a xs) (hn : xs.length = n) (hm : n ≤ 4611686018427387904) (hR : ¬ RoundP xs) :
    Calls Try.prog 27 #[.slice a n c] w (Only (.tuple #[.slice none 0 0, .int .i64 2]) w) := by
  have K := refIsRound_any a n c xs w h hn hm
  rw [decide_eq_false hR] at K
  replace K := Lib.hid K
  clear h hn hR
  go_enter Try.func27, Try.ntmps27
  go_wp2_with (go_at_call 44; refine K.out.mono ?_; rintro e w1 ⟨rfl, rfl⟩)
  go_ret2
  exact Only.mk rfl
theorem refOf_any (a : Option Addr) (n c : Nat) (xs : List Int) (w : World) (h : Ints w a xs) (hn : xs.length = n) (hm : n ≤ 4611686018427387904) :
    Calls Try.prog 27 #[.slice a n c] w (OfAll xs w) := by
  by_cases hR : RoundP xs
  · exact refOf_yes a n c xs w h hn hR
  · refine (refOf_no a n c xs w h hn hm hR).mono ?_
    rintro e w' ⟨rfl, rfl⟩
    exact ⟨Below.refl _ _, .inr ⟨2, .inl ⟨hR, rfl⟩, rfl⟩⟩
/-- Of every list Of returns one list and one error. -/
theorem ofAll_one (xs : List Int) : ∃ (ys : List (Int × Int)) (er : Int), ys.length ≤ 100 ∧ ∀ w e w', OfAll xs w e w' → ∃ a' c', e = .returned (.tuple #[.slice a' ys.length c', .int .i64 er]) ∧ Prs w' a' ys ∧ Below w.heap.size w w' := by
  by_cases hR : RoundP xs
  · cases hM : ofL xs with
    | none =>
      refine ⟨[], 10, by simp, ?_⟩
      rintro w e w' ⟨hb, ⟨M, a', c', _, h1, _⟩ | ⟨er, h1, h2⟩⟩
      · rw [hM] at h1; cases h1
      · rcases h1 with ⟨h1, _⟩ | ⟨_, _, rfl⟩
        · exact absurd hR h1
        · exact ⟨none, 0, h2, .inl rfl, hb⟩
    | some M =>
      have hf := (ofL_brand hR.tame hR.1 hM).1
      refine ⟨M, 0, by have := hf.2.2; have := hR.2.1; omega, ?_⟩
      rintro w e w' ⟨hb, ⟨M', a', c', _, h1, h2, h3, _⟩ | ⟨er, h1, h2⟩⟩
      · rw [hM] at h1; cases h1; exact ⟨a', c', h2, h3, hb⟩
      · rcases h1 with ⟨h1, _⟩ | ⟨_, h1, _⟩
        · exact absurd hR h1
        · rw [hM] at h1; cases h1
  · refine ⟨[], 2, by simp, ?_⟩
    rintro w e w' ⟨hb, ⟨M, a', c', h1, _⟩ | ⟨er, h1, h2⟩⟩
    · exact absurd h1 hR
    · rcases h1 with ⟨_, rfl⟩ | ⟨h1, _⟩
      · exact ⟨none, 0, h2, .inl rfl, hb⟩
      · exact absurd h1 hR
theorem closE_form (xs : List Int) : ∃ (b : Bool) (er : Int), closE xs = .tuple #[.bool b, .int .i64 er] := by
  unfold closE
  split
  · exact ⟨_, _, rfl⟩
  · exact ⟨_, _, rfl⟩
set_option maxRecDepth 100000 in
set_option maxHeartbeats 4000000 in
theorem of_law (a : Option Addr) (len cap : Nat) (xs : List Int) (w : World) (h : Ints w a xs) (hl : xs.length = len) (hcap : len ≤ cap) (hnil : a = none → cap = 0) :
    Calls Try.prog 4 #[.slice a len cap] w (Ret (.bool true) w) := by
  by_cases h60 : len ≤ 60
  · obtain ⟨j0, hi, hz0, hz1, hz2⟩ := info_parts infoInt
    have P0 := Lib.hid hi
    have P1 := Lib.hid hz0
    have P2 := Lib.hid hz1
    have P3 := Lib.hid hz2
    clear hi hz0 hz1 hz2
    obtain ⟨ys, er, hys, hof⟩ := ofAll_one xs
    obtain ⟨cb, ce, hce⟩ := closE_form xs
    have C1 := Lib.hid (fun a1 c1 W (hI : Ints W a1 xs) => (Of_any a1 len c1 xs W hI hl (by omega)).mono fun e w' hh => hof W e w' hh)
    have C2 := Lib.hid (fun a1 c1 W (hI : Ints W a1 xs) => (refOf_any a1 len c1 xs W hI hl (by omega)).mono fun e w' hh => hof W e w' hh)
    have D1 := Lib.hid (fun a1 c1 W (hI : Ints W a1 xs) => Closed_any a1 len c1 xs W hI hl (by omega))
    have D2 := Lib.hid (fun a1 c1 W (hI : Ints W a1 xs) => refClosed_any a1 len c1 xs W hI hl (by omega))
    rw [hce] at D1 D2
    have S := Lib.hid (fun a1 c1 a2 c2 W (hI : Ints W a1 xs) (hI2 : Ints W a2 xs) => show Calls Try.prog 24 #[.slice a1 len c1, .slice a2 len c2] W (Ret (.bool true) W) from by
      have := same_any a1 a2 len len c1 c2 xs xs W hI hI2 hl hl (by omega) (by omega)
      rwa [decide_eq_true rfl] at this)
    have S1 := Lib.hid (fun a1 c1 a2 c2 W (hI : Prs W a1 ys) (hI2 : Prs W a2 ys) => show Calls Try.prog 25 #[.slice a1 ys.length c1, .slice a2 ys.length c2] W (Ret (.bool true) W) from by
      have := pairs_any a1 a2 _ _ c1 c2 _ _ W hI hI2 rfl rfl (by omega) (by omega)
      rwa [decide_eq_true rfl] at this)
    clear hof hce
    have hI0 := Lib.hid h
    have hl0 := Lib.hid hl
    have hL2 := Lib.hid (show (lI xs).length = len * 1 by rw [lI_length, hl]; omega)
    have hone := Lib.hid (lI_one xs)
    have start : a = none ∨ ∃ ad, a = some ad := by cases a with | none => exact .inl rfl | some ad => exact .inr ⟨ad, rfl⟩
    rcases start with rfl | ⟨ad, rfl⟩
    · have e2 := hnil rfl
      obtain rfl : len = 0 := by omega
      subst e2
      obtain rfl : xs = [] := List.eq_nil_of_length_eq_zero hl
      go_enter Try.func4, Try.ntmps4
      go_wp2_with (at_builtin; refine wpList_append_own_none rfl _ _ 30 rfl w.heap.size 3 j0 1 Try.underlying30 P0.out _ _ _ rfl (World.ownsRow_made w #[] 0 (Nat.le_refl _) (by decide) rfl) rfl ?_)
      have B0 := b1 w (.cells #[] 3)
      generalize w.alloc (.cells #[] 3) = W1 at *
      have HA := Lib.hid (show Ints W1 none [] from .inl rfl)
      have HB := Lib.hid (show Ints W1 (some ⟨w.heap.size, 0, none⟩) [] from .inl rfl)
      clear hI0 hl0 hL2 hone h hl hnil hcap
      go_wp2_with fail
      refine (C1.out _ _ _ HB.out).mono ?_
      rintro e w2 ⟨a2, c2, rfl, h2, hb2⟩
      dsimp only
      go_wp2_with fail
      refine (C2.out _ _ _ (HA.out.next hb2)).mono ?_
      rintro e w3 ⟨a3, c3, rfl, h3, hb3⟩
      dsimp only
      replace h2 := h2.next hb3
      replace hb2 := nextB hb2 hb3
      clear hb3
      go_wp2_with fail
      refine (S1.out _ _ _ _ _ h2 h3).mono ?_
      rintro e w4 ⟨rfl, hb4⟩
      dsimp only
      replace hb2 := nextB hb2 hb4
      clear hb4 h2 h3 C1 C2 S1
      go_wp2_with fail
      refine (D1.out _ _ _ (HB.out.next hb2)).mono ?_
      rintro e w5 ⟨rfl, hb5⟩
      dsimp only
      replace hb2 := nextB hb2 hb5
      clear hb5
      go_wp2_with fail
      refine (D2.out _ _ _ (HA.out.next hb2)).mono ?_
      rintro e w6 ⟨rfl, rfl⟩
      dsimp only
      clear D1 D2
      go_wp2_with fail
      refine (S.out _ _ _ _ _ (HB.out.next hb2) (HA.out.next hb2)).mono ?_
      rintro e w8 ⟨rfl, hb8⟩
      dsimp only
      replace hb2 := nextB hb2 hb8
      clear hb8
      go_wp2_with (go_at_call 17; refine (alive_any _).mono ?_; rintro e w9 ⟨rfl, hb9⟩)
      go_ret
      exact Ret.mk rfl (nextB B0 (nextB hb2 hb9))
    · have src := Lib.hid (ints_src h rfl)
      clear hnil
      go_enter Try.func4, Try.ntmps4
      go_wp2_with (at_builtin; refine wpList_append_own _ rfl _ _ 30 rfl w.heap.size 3 j0 (.int .i64 0) 1 8 Try.underlying30 P0.out P1.out P2.out P3.out rfl (by decide) _ _ _ rfl (World.ownsRow_made w #[] 0 (Nat.le_refl _) (by decide) rfl) ad len cap (lI xs) rfl hL2.out (fun j u hj => cellB (b1 _ _) (src.out j u hj)) hone.out (by unfold maxLen; omega) (by omega) (by simp) ?_; intro v' W1 hown hgrow _; rw [Nat.zero_add, List.nil_append] at hown; obtain ⟨a1, c1, rfl, hc1, hp1⟩ := own_intsA hown hl0.out)
      have B0 : Below w.heap.size w W1 := ((Below.refl _ w).alloc (Nat.le_refl _) _).grown hgrow (by simp) (fun _ h => by cases h; exact Nat.le_refl _)
      have HA := Lib.hid (show Ints W1 (some ad) xs from hI0.out.next B0)
      have HB := Lib.hid hp1
      clear hgrow hown hp1 src hone hL2 hI0 h
      go_wp2_with fail
      refine (C1.out _ _ _ HB.out).mono ?_
      rintro e w2 ⟨a2, c2, rfl, h2, hb2⟩
      dsimp only
      go_wp2_with fail
      refine (C2.out _ _ _ (HA.out.next hb2)).mono ?_
      rintro e w3 ⟨a3, c3, rfl, h3, hb3⟩
      dsimp only
      replace h2 := h2.next hb3
      replace hb2 := nextB hb2 hb3
      clear hb3
      go_wp2_with fail
      refine (S1.out _ _ _ _ _ h2 h3).mono ?_
      rintro e w4 ⟨rfl, hb4⟩
      dsimp only
      replace hb2 := nextB hb2 hb4
      clear hb4 h2 h3 C1 C2 S1
      go_wp2_with fail
      refine (D1.out _ _ _ (HB.out.next hb2)).mono ?_
      rintro e w5 ⟨rfl, hb5⟩
      dsimp only
      replace hb2 := nextB hb2 hb5
      clear hb5
      go_wp2_with fail
      refine (D2.out _ _ _ (HA.out.next hb2)).mono ?_
      rintro e w6 ⟨rfl, rfl⟩
      dsimp only
      clear D1 D2
      go_wp2_with fail
      refine (S.out _ _ _ _ _ (HB.out.next hb2) (HA.out.next hb2)).mono ?_
      rintro e w8 ⟨rfl, hb8⟩
      dsimp only
      replace hb2 := nextB hb2 hb8
      clear hb8
      go_wp2_with (go_at_call 17; refine (alive_any _).mono ?_; rintro e w9 ⟨rfl, hb9⟩)
      go_ret
      exact Ret.mk rfl (nextB B0 (nextB hb2 hb9))
  · have hgt : 60 < len := by omega
    clear h60 h hl
    go_enter Try.func4, Try.ntmps4
    go_wp2_with (go_at_call 17; refine (alive_any _).mono ?_; rintro e w2 ⟨rfl, hb2⟩)
    go_ret
    exact Ret.mk rfl hb2
end Go.Proofs.Ytflbaadfbjpakaa
