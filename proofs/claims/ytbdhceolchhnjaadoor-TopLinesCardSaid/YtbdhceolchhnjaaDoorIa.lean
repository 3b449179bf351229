/- Layers 3 and 4: a rule is a field, and the dogs play for the other rule; what every right program knows of both. -/
import Derived.Test.YtbdhceolchhnjaaDoorHf
import Derived.Test.YtbdhceolchhnjaaDoorUc
import Derived.Test.YtbdhceolchhnjaaDoorGd
import Derived.Test.YtbdhceolchhnjaaDoorWf
namespace Go.Proofs.YtbdhceolchhnjaaDoor
open Go Go.RowKit

theorem rule_field {n : Nat} {R : List Int} (h : Vo.RuleP n R) (h12 : R.length ≤ 12) : FieldP n R := by
  obtain ⟨h1, h5, _, hR⟩ := h
  refine ⟨h1, by omega, h12, fun z hz => ?_⟩
  obtain ⟨i, hi, rfl⟩ := List.getElem_of_mem hz
  obtain ⟨q1, q2, _⟩ := hR i hi
  have e : nth R i = R[i] := by simp [nth, hi]
  rw [e] at q1 q2
  omega
theorem has_vo (R : List Int) (s : Nat) : Vo.hasOne R s = hasOne R s := rfl
/-- The list of the other rule. -/
def othL (n : Nat) (R : List Int) : List Int := Vo.lN (leastL (Vo.othF (Vo.hasOne R) n) (pw n))
theorem othL_has {n : Nat} {R : List Int} (h : Vo.RuleP n R) {d : Nat} (hd : d < pw n) : hasOne (othL n R) d = !(hasOne R (pw n - 1 - d)) := by
  rw [← has_vo, ← has_vo]
  exact Vo.hasOne_least (Vo.game_oth (Vo.game_rule h)) hd
theorem othL_rule {n : Nat} {R : List Int} (h : Vo.RuleP n R) : Vo.RuleP n (othL n R) := Vo.rule_least (Vo.game_oth (Vo.game_rule h)) h.1 h.2.1
theorem pos_full {n w d : Nat} (hp : PosP n w d) (hf : frL n w d = []) : pw n - 1 - d = w := by
  apply Nat.eq_of_testBit_eq
  intro i
  have hd := hp.hd
  have hw := hp.hw
  by_cases hi : i < n
  · have h1 : (pw n - 1 - d).testBit i = !(d.testBit i) := by
      unfold pw at *
      rw [show 2 ^ n - 1 - d = 2 ^ n - (d + 1) by omega, Nat.testBit_two_pow_sub_succ hd]
      simp [hi]
    rw [h1]
    have h2 : i ∉ frL n w d := by rw [hf]; simp
    rw [frL_mem] at h2
    cases hwi : w.testBit i
    · cases hdi : d.testBit i
      · exact absurd ⟨hi, hwi, hdi⟩ h2
      · rfl
    · rw [hp.apart i hwi]; rfl
  · have hlt : ∀ x, x < pw n → x.testBit i = false := fun x hx => Nat.testBit_lt_two_pow (Nat.lt_of_lt_of_le hx (by unfold pw; exact Nat.pow_le_pow_right (by omega) (by omega)))
    rw [hlt _ (by have := pw_pos n; omega), hlt _ hw]
theorem win_block {n : Nat} {R : List Int} (h : Vo.RuleP n R) (nx : Bool) : win n (othL n R) 0 0 nx = !(win n R 0 0 (!nx)) := by
  have hp : PosP n 0 0 := ⟨pw_pos n, pw_pos n, fun i hi => by simp at hi⟩
  refine win_other (L := R) (O := othL n R) (fun w d hpos hfr => ?_) _ 0 0 nx rfl hp
  rw [othL_has h hpos.hd, pos_full hpos hfr]
def sWWD : ByteArray := { data := #[119, 119, 100] }
theorem vot_w : tE 3 [3, 5] sWWD strW = 0 ∧ winS 3 [3, 5] sWWD strW = strW := by
  have e : tE 3 [3, 5] sWWD strW = 0 := by
    unfold tE
    rw [show pE 3 [3, 5] sWWD = 0 by decide +kernel, show isSide strW = true by decide +kernel]; rfl
  refine ⟨e, ?_⟩
  unfold winS
  rw [e, if_pos rfl]
  rw [show sd (win (3 : Int).toNat [3, 5] (psB sWWD 119 (3 : Int).toNat) (psB sWWD 100 (3 : Int).toNat) (sideN strW == 1)) = 0 by decide +kernel]
  rfl
theorem ints_new2 (w : World) (x y : Int) : Ints (w.alloc (.cells #[.int .i64 x, .int .i64 y] 3)) (some ⟨w.heap.size, 0, none⟩) [x, y] := by
  have hX := Blk.new w 3 #[.int .i64 x, .int .i64 y]
  refine .inr ⟨w.heap.size, 0, rfl, fun i hi => ?_⟩
  have : i = 0 ∨ i = 1 := by simp at hi; omega
  rcases this with rfl | rfl
  · exact hX.c 0 rfl
  · exact hX.c 1 rfl
set_option maxRecDepth 100000 in
theorem voted_any (w : World) (hT : Tab w) : Calls Tryd.prog 36 #[] w (Ret (.bool true) w) := by
  have bA := b1 w (.cells #[.int .i64 3, .int .i64 5] 3)
  have WN := Lib.hid (show Calls Tryd.prog 12 #[.int .i64 3, .slice (some ⟨w.heap.size, 0, none⟩) 2 2, .string sWWD, .string strW] _ (Ret (.tuple #[.string strW, .int .i64 0]) _) from by
    have := Winner_any 3 (some ⟨w.heap.size, 0, none⟩) 2 2 [3, 5] sWWD strW _ (ints_new2 w 3 5) rfl (hT.next bA)
    rw [vot_w.1, vot_w.2] at this
    exact this)
  have RU := Lib.hid (fun (W : World) => show Calls Tryd.prog 37 #[.int .i64 3, .slice (some ⟨W.heap.size, 0, none⟩) 2 2, .int .i64 3] (W.alloc (.cells #[.int .i64 3, .int .i64 5] 3)) (Ret (.tuple #[.bool true, .int .i64 0]) (W.alloc (.cells #[.int .i64 3, .int .i64 5] 3))) from by
    have := Vo.Rules_yes (some ⟨W.heap.size, 0, none⟩) 3 2 (W.alloc (.cells #[.int .i64 3, .int .i64 5] 3)) 2 3 [3, 5] (ints_new2 W 3 5) rfl (by omega) (by omega) (by decide) (by decide)
    rw [show Vo.hasOne [3, 5] 3 = true by decide] at this
    exact this)
  unfold sWWD strW at WN
  clear hT
  go_enter Tryd.func36, Tryd.ntmps36
  go_wp2_with fail
  refine WN.out.mono ?_
  rintro e w1 ⟨rfl, hb1⟩
  dsimp only
  have B1 := nextB bA hb1
  go_wp2_with fail
  refine (RU.out w1).mono ?_
  rintro e w2 ⟨rfl, hb2⟩
  dsimp only
  have B2 := nextB B1 (nextB (b1 w1 _) hb2)
  clear WN RU hb1 hb2 B1 bA
  go_wp2
  go_ret
  exact Ret.mk rfl B2
end Go.Proofs.YtbdhceolchhnjaaDoor
