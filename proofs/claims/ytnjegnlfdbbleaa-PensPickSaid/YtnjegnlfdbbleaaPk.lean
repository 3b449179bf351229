/- PensPick: the area is twice the number of points inside, and the number on the border, less 2: the walk. -/
import Derived.Test.YtnjegnlfdbbleaaGc
import Derived.Test.YtnjegnlfdbbleaaEh
namespace Go.Proofs.Ytnjegnlfdbbleaa
open Go Go.RowKit Go.Shelf

theorem PenP.simp {n : Nat} {p : Nat → Int × Int} (h : PenP n p) : Simp n p := (pen_sym.1 h).simp
theorem PenP.pick {n : Nat} {p : Nat → Int × Int} (h : PenP n p) : grownI (areaI n p) (borderI n p) (-1) = boxS 50 (insI n p) ∧ 0 ≤ boxS 50 (insI n p) ∧ 3 ≤ borderI n p ∧ areaI n p = 2 * boxS 50 (insI n p) + borderI n p - 2 := by
  obtain ⟨h1, h2⟩ := h.simp.area 50 h.sm
  have h3 := h.simp.border_ge
  refine ⟨?_, h1, h3, h2⟩
  unfold grownI
  rw [h2]
  generalize boxS 50 (insI n p) = X at *
  generalize borderI n p = B at *
  rw [show (2 * X + B - 2) * -1 * -1 + B * -1 + 2 = 2 * X by omega]
  exact Int.mul_tdiv_cancel_left _ (by omega)

set_option maxRecDepth 100000 in
set_option maxHeartbeats 1600000 in
theorem pick_any (a : Option Addr) (n c : Nat) (p : Nat → Int × Int) (w : World) (h : Pts w a n p) :
    Calls Try.prog 7 #[.slice a n c] w (Ret (.bool true) w) := by
  have HF := fun w => few_any a n c w
  by_cases hn : n ≤ 60
  · have hm : n ≤ 4611686018427387904 := by omega
    simp only [decide_eq_true hn] at HF
    replace HF := Lib.hid HF
    have HI := fun w1 (hb : Below w.heap.size w w1) => isPen_any a n c p w1 hm (h.next hb)
    have HJ := fun w1 (hb : Below w.heap.size w w1) => IsPen_any a n c p w1 hm (h.next hb)
    by_cases hp : PenP n p
    · simp only [decide_eq_true hp] at HI HJ
      replace HI := Lib.hid HI
      replace HJ := Lib.hid HJ
      have H1 := fun w1 (hb : Below w.heap.size w w1) => Area_yes a n c p w1 hm (h.next hb) hp
      have H2 := fun w1 (hb : Below w.heap.size w w1) => Count_yes a n c p w1 hm (h.next hb) hp
      obtain ⟨k1, k2, k3, k4⟩ := hp.pick
      obtain ⟨k5, k6, k7, k8⟩ := hp.bds
      rw [k1] at H2
      replace H1 := Lib.hid H1
      replace H2 := Lib.hid H2
      clear k1 h hp
      generalize areaI n p = A at *
      generalize borderI n p = B at *
      generalize boxS 50 (insI n p) = I at *
      have z1 : (A == 2 * I + B - 2) = true := by rw [beq_iff_eq]; exact k4
      have z2 : 0 < A := by omega
      have z3 : I ≤ 50000 := by omega
      clear k4
      go_enter Try.func7, Try.ntmps7
      go_wp2_with (first
        | (go_at_call 12; refine (HF.out _).mono ?_; rintro e w1 ⟨rfl, hb1⟩)
        | (go_at_call 16; refine (H1.out _ hb1).mono ?_; rintro e w2 ⟨rfl, hb2⟩; replace hb1 := nextB hb1 hb2; clear hb2)
        | (go_at_call 21; refine (H2.out _ hb1).mono ?_; rintro e w2 ⟨rfl, hb2⟩; replace hb1 := nextB hb1 hb2; clear hb2)
        | (go_at_call 15; refine (HI.out _ hb1).mono ?_; rintro e w2 ⟨rfl, hb2⟩; replace hb1 := nextB hb1 hb2; clear hb2)
        | (go_at_call 14; refine (HJ.out _ hb1).mono ?_; rintro e w2 ⟨rfl, hb2⟩; replace hb1 := nextB hb1 hb2; clear hb2)
        | (go_at_call 13; refine (alive_any _).mono ?_; rintro e w2 ⟨rfl, hb2⟩; replace hb1 := nextB hb1 hb2; clear hb2))
      go_ret
      exact Ret.mk rfl hb1
    · simp only [decide_eq_false hp] at HI HJ
      replace HI := Lib.hid HI
      replace HJ := Lib.hid HJ
      have H1 := Lib.hid (fun w1 (hb : Below w.heap.size w w1) => Area_no a n c p w1 hm (h.next hb) hp)
      have H2 := Lib.hid (fun w1 (hb : Below w.heap.size w w1) => Count_no a n c p w1 hm (h.next hb) hp)
      clear h hp
      go_enter Try.func7, Try.ntmps7
      go_wp2_with (first
        | (go_at_call 12; refine (HF.out _).mono ?_; rintro e w1 ⟨rfl, hb1⟩)
        | (go_at_call 16; refine (H1.out _ hb1).mono ?_; rintro e w2 ⟨rfl, hb2⟩; replace hb1 := nextB hb1 hb2; clear hb2)
        | (go_at_call 21; refine (H2.out _ hb1).mono ?_; rintro e w2 ⟨rfl, hb2⟩; replace hb1 := nextB hb1 hb2; clear hb2)
        | (go_at_call 15; refine (HI.out _ hb1).mono ?_; rintro e w2 ⟨rfl, hb2⟩; replace hb1 := nextB hb1 hb2; clear hb2)
        | (go_at_call 14; refine (HJ.out _ hb1).mono ?_; rintro e w2 ⟨rfl, hb2⟩; replace hb1 := nextB hb1 hb2; clear hb2)
        | (go_at_call 13; refine (alive_any _).mono ?_; rintro e w2 ⟨rfl, hb2⟩; replace hb1 := nextB hb1 hb2; clear hb2))
      go_ret
      exact Ret.mk rfl hb1
  · simp only [decide_eq_false hn] at HF
    replace HF := Lib.hid HF
    clear h
    go_enter Try.func7, Try.ntmps7
    go_wp2_with (first
      | (go_at_call 12; refine (HF.out _).mono ?_; rintro e w1 ⟨rfl, hb1⟩)
      | (go_at_call 13; refine (alive_any _).mono ?_; rintro e w2 ⟨rfl, hb2⟩; replace hb1 := nextB hb1 hb2; clear hb2))
    go_ret
    exact Ret.mk rfl hb1
end Go.Proofs.Ytnjegnlfdbbleaa
