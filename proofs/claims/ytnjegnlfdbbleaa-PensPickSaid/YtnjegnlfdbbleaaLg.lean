/- PensGrows: Grown returns the numbers, or the error, of the specification: the walk. -/
import Derived.Test.YtnjegnlfdbbleaaL
namespace Go.Proofs.Ytnjegnlfdbbleaa
open Go Go.RowKit Go.Shelf

set_option maxRecDepth 100000 in
set_option maxHeartbeats 1600000 in
theorem grows_any (a : Option Addr) (n c : Nat) (p : Nat → Int × Int) (t : Int) (w : World) (h : Pts w a n p) :
    Calls Try.prog 5 #[.slice a n c, .int .i64 t] w (Ret (.bool true) w) := by
  have HF := fun w => few_any a n c w
  by_cases hn : n ≤ 60
  · have hm : n ≤ 4611686018427387904 := by omega
    simp only [decide_eq_true hn] at HF
    replace HF := Lib.hid HF
    by_cases hg : GrowP n p t
    · have H1 := Lib.hid (fun w1 (hb : Below w.heap.size w w1) => Grown_yes a n c p t w1 hm (h.next hb) hg.1 hg.2.1 hg.2.2)
      have H2 := fun w1 (hb : Below w.heap.size w w1) => refGrown_yes a n c p t w1 hm (h.next hb) hg.1 hg.2.1 hg.2.2
      obtain ⟨e1, e2⟩ := grown_same (area_par n p) t
      rw [← e1, ← e2] at H2
      replace H2 := Lib.hid H2
      clear h hg e1 e2
      generalize grownI (areaI n p) (borderI n p) t = A at *
      generalize grownI (areaI n p) (borderI n p) (-t) = B at *
      go_enter Try.func5, Try.ntmps5
      go_wp2_with (first
        | (go_at_call 12; refine (HF.out _).mono ?_; rintro e w1 ⟨rfl, hb1⟩)
        | (go_at_call 25; refine (H1.out _ hb1).mono ?_; rintro e w2 ⟨rfl, hb2⟩; replace hb1 := nextB hb1 hb2; clear hb2)
        | (go_at_call 26; refine (H2.out _ hb1).mono ?_; rintro e w2 ⟨rfl, hb2⟩; replace hb1 := nextB hb1 hb2; clear hb2)
        | (go_at_call 13; refine (alive_any _).mono ?_; rintro e w2 ⟨rfl, hb2⟩; replace hb1 := nextB hb1 hb2; clear hb2))
      go_ret
      exact Ret.mk rfl hb1
    · have H1 := Lib.hid (fun w1 (hb : Below w.heap.size w w1) => Grown_no a n c p t w1 hm (h.next hb) hg)
      have H2 := Lib.hid (fun w1 (hb : Below w.heap.size w w1) => refGrown_no a n c p t w1 hm (h.next hb) hg)
      clear h hg
      go_enter Try.func5, Try.ntmps5
      go_wp2_with (first
        | (go_at_call 12; refine (HF.out _).mono ?_; rintro e w1 ⟨rfl, hb1⟩)
        | (go_at_call 25; refine (H1.out _ hb1).mono ?_; rintro e w2 ⟨rfl, hb2⟩; replace hb1 := nextB hb1 hb2; clear hb2)
        | (go_at_call 26; refine (H2.out _ hb1).mono ?_; rintro e w2 ⟨rfl, hb2⟩; replace hb1 := nextB hb1 hb2; clear hb2)
        | (go_at_call 13; refine (alive_any _).mono ?_; rintro e w2 ⟨rfl, hb2⟩; replace hb1 := nextB hb1 hb2; clear hb2))
      go_ret
      exact Ret.mk rfl hb1
  · simp only [decide_eq_false hn] at HF
    replace HF := Lib.hid HF
    clear h
    go_enter Try.func5, Try.ntmps5
    go_wp2_with (first
      | (go_at_call 12; refine (HF.out _).mono ?_; rintro e w1 ⟨rfl, hb1⟩)
      | (go_at_call 13; refine (alive_any _).mono ?_; rintro e w2 ⟨rfl, hb2⟩; replace hb1 := nextB hb1 hb2; clear hb2))
    go_ret
    exact Ret.mk rfl hb1
end Go.Proofs.Ytnjegnlfdbbleaa
