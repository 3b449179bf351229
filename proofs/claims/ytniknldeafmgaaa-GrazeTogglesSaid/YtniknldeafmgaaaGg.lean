/- Layer 8, by the program: changed; Day, Back. -/
import Derived.Test.YtniknldeafmgaaaGf
namespace Go.Proofs.Ytniknldeafmgaaa
set_option linter.unusedSimpArgs false
set_option linter.unusedVariables false
open Go Go.RowKit

/-- A copy was returned, in a block of its own, and no error. -/
def CopyE (xs : List Int) (w : World) (e : Ending) (w' : World) : Prop := ∃ g c, e = .returned (.tuple #[.slice (some ⟨g, 0, none⟩) xs.length c, .int .i64 0]) ∧ xs.length ≤ c ∧ w.heap.size ≤ g ∧ (∀ i, i < xs.length → w'.cell? ⟨g, i, none⟩ = some (.int .i64 (nth xs i))) ∧ Below w.heap.size w w'
theorem CopyE.got {xs : List Int} {w w' : World} {e : Ending} (h : CopyE xs w e w') : GotI xs w e w' := by
  obtain ⟨g, c, h1, h2, _, h4, h5⟩ := h
  exact ⟨_, c, h1, h2, .inr ⟨g, 0, rfl, fun i hi => by rw [Nat.zero_add]; exact h4 i hi⟩, h5⟩
/-- An error was returned, and no list. -/
def ErrL (n : Int) (w : World) (e : Ending) (w' : World) : Prop := Ret (.tuple #[.slice none 0 0, .int .i64 n]) w e w'
set_option maxRecDepth 100000 in
theorem changed_yes (a b : Nat) (g g' : Nat → Nat) (fn : FuncId) (caps : Array Value) (ad : Option Addr) (c : Nat) (w : World) (h : IsS a b g) (h' : IsP a b g') (hI : Ints w ad (stL a g))
    (HE : ∀ args W, (callFunc fn args).run Try.prog W = .ok (.enter fn args) W) (H : ∀ W, Below w.heap.size w W → Calls Try.prog fn (#[pV a b g] ++ caps) W (Ret (pV a b g') W)) :
    Calls Try.prog 46 #[.int .i64 (a : Int), .int .i64 (b : Int), .slice ad a c, .func (.func fn) #[] caps] w (CopyE (stL a g') w) := by
  have hP := pastureOf_yes a b g ad c w h hI
  have hL := Lib.hid (fun w => list_any a b g' w h')
  replace H := Lib.hid H
  clear h h' hI
  go_enter Try.func46, Try.ntmps46
  go_upto_region 2 with (go_at_call 57; refine hP.mono ?_; rintro _ w1 ⟨rfl, hw1⟩)
  have k0 := Lib.hid (Blk.new w1 66 (pC a b g))
  have B := Lib.hid (hw1.trans ((b1 w1 (.cells (pC a b g) 66)).mono hw1.size))
  have hD : w.heap.size ≤ w1.heap.size := hw1.size
  clear hw1 hP
  generalize w1.alloc (.cells (pC a b g) 66) = W at *
  generalize w1.heap.size = D at *
  obtain ⟨p0, p1, p2, p3, p4, p5, p6, p7⟩ := k0.out.pc
  have H1 := Lib.hid (H.out W B.out)
  clear H
  go_wp2_with (fail)
  refine H1.out.mono ?_
  rintro _ w2 ⟨rfl, hw2⟩
  dsimp only
  go_wp2_with (go_at_call 60; refine (hL.out _).mono ?_; rintro _ w3 ⟨G, c3, rfl, hc3, hG, hcell, hw3⟩)
  go_ret2
  have e1 := B.out.size
  have e2 := hw2.size
  exact ⟨G, c3, rfl, hc3, by omega, hcell, nextB (nextB B.out hw2) hw3⟩
set_option maxRecDepth 100000 in
theorem changed_no (a b : Int) (xs : List Int) (ad : Option Addr) (n c : Nat) (fv : Value) (w : World) (hI : Ints w ad xs) (hl : xs.length = n) (h : ¬ StP a b xs) :
    Calls Try.prog 46 #[.int .i64 a, .int .i64 b, .slice ad n c, fv] w (ErrL 2 w) := by
  have hP := pastureOf_no a b xs ad n c w hI hl h
  clear h hI hl
  go_enter Try.func46, Try.ntmps46
  go_wp2_with (go_at_call 57; refine hP.mono ?_; rintro _ w1 ⟨rfl, hw1⟩)
  go_ret2
  exact Ret.mk rfl (hw1.trans ((b1 w1 _).mono hw1.size))
theorem entersDay (args : Array Value) (W : World) : (callFunc 47 args).run Try.prog W = .ok (.enter 47 args) W := by go_simp
theorem entersBack (args : Array Value) (W : World) : (callFunc 50 args).run Try.prog W = .ok (.enter 50 args) W := by go_simp
theorem Day_yes (a b : Nat) (g : Nat → Nat) (ad : Option Addr) (c : Nat) (w : World) (h : IsS a b g) (hI : Ints w ad (stL a g)) :
    Calls Try.prog 16 #[.int .i64 (a : Int), .int .i64 (b : Int), .slice ad a c] w (CopyE (stL a (dayF a b g)) w) := by
  have hC := changed_yes a b g (dayF a b g) 47 #[] ad c w h (dayF_P h.p) hI entersDay (fun W _ => day_any a b g W h.p)
  clear h hI
  go_enter Try.func16, Try.ntmps16
  go_wp2_with (go_at_call 46; refine hC.mono ?_; rintro _ w1 ⟨G, c1, rfl, hc1, hG, hcell, hw1⟩)
  go_ret2
  exact ⟨G, c1, rfl, hc1, hG, hcell, hw1⟩
theorem Day_no (a b : Int) (xs : List Int) (ad : Option Addr) (n c : Nat) (w : World) (hI : Ints w ad xs) (hl : xs.length = n) (h : ¬ StP a b xs) :
    Calls Try.prog 16 #[.int .i64 a, .int .i64 b, .slice ad n c] w (ErrL 2 w) := by
  have hC := fun fv => changed_no a b xs ad n c fv w hI hl h
  clear h hI hl
  go_enter Try.func16, Try.ntmps16
  go_wp2_with (go_at_call 46; refine (hC _).mono ?_; rintro _ w1 ⟨rfl, hw1⟩)
  go_ret2
  exact ⟨rfl, hw1⟩
theorem Back_yes (a b : Nat) (g : Nat → Nat) (ad : Option Addr) (c : Nat) (w : World) (h : IsS a b g) (hI : Ints w ad (stL a g)) :
    Calls Try.prog 19 #[.int .i64 (a : Int), .int .i64 (b : Int), .slice ad a c] w (CopyE (stL a (bakF a b g)) w) := by
  have hC := changed_yes a b g (bakF a b g) 50 #[] ad c w h (bakF_P h.p) hI entersBack (fun W _ => back_any a b g W h.p)
  clear h hI
  go_enter Try.func19, Try.ntmps19
  go_wp2_with (go_at_call 46; refine hC.mono ?_; rintro _ w1 ⟨G, c1, rfl, hc1, hG, hcell, hw1⟩)
  go_ret2
  exact ⟨G, c1, rfl, hc1, hG, hcell, hw1⟩
theorem Back_no (a b : Int) (xs : List Int) (ad : Option Addr) (n c : Nat) (w : World) (hI : Ints w ad xs) (hl : xs.length = n) (h : ¬ StP a b xs) :
    Calls Try.prog 19 #[.int .i64 a, .int .i64 b, .slice ad n c] w (ErrL 2 w) := by
  have hC := fun fv => changed_no a b xs ad n c fv w hI hl h
  clear h hI hl
  go_enter Try.func19, Try.ntmps19
  go_wp2_with (go_at_call 46; refine (hC _).mono ?_; rintro _ w1 ⟨rfl, hw1⟩)
  go_ret2
  exact ⟨rfl, hw1⟩
end Go.Proofs.Ytniknldeafmgaaa
