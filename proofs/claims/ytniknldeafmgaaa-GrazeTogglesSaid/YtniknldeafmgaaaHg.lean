/- Layer 8, by the program: Turn. -/
import Derived.Test.YtniknldeafmgaaaHe
namespace Go.Proofs.Ytniknldeafmgaaa
set_option linter.unusedSimpArgs false
set_option linter.unusedVariables false
open Go Go.RowKit

/-- What Q says. -/
def Says (Q : Ending → World → Prop) (e : Ending) (w : World) : Prop := Q e w
theorem Turn_of (a b x y : Int) (sv : Value) (w : World) (Q : Ending → World → Prop)
    (hT : Calls Try.prog 25 #[.int .i64 a, .int .i64 b, sv, .slice (some ⟨w.heap.size, 0, none⟩) 1 1] (w.alloc (.cells #[.int .i64 x, .int .i64 y] 31)) (fun e w' => ∃ l n, e = .returned (.tuple #[l, .int .i64 n]) ∧ Q e w')) :
    Calls Try.prog 23 #[.int .i64 a, .int .i64 b, sv, .int .i64 x, .int .i64 y] w (Says Q) := by
  go_enter Try.func23, Try.ntmps23
  go_wp2_with (go_at_call 25; refine hT.mono ?_; rintro _ w1 ⟨l, n, rfl, hq⟩)
  go_ret2
  exact hq
theorem Turn_yes (a b : Nat) (g : Nat → Nat) (x y : Int) (ad : Option Addr) (c : Nat) (w : World) (hs : IsS a b g) (hI : Ints w ad (stL a g)) (h : HasP a b x y) :
    Calls Try.prog 23 #[.int .i64 (a : Int), .int .i64 (b : Int), .slice ad a c, .int .i64 x, .int .i64 y] w (CopyE (stL a (tnf a b g x.toNat y.toNat)) w) := by
  have hB := b1 w (.cells #[.int .i64 x, .int .i64 y] 31)
  refine Turn_of _ _ x y _ w _ ((Turns_yes a b g [(x, y)] ad _ c 1 1 _ hs (hI.next hB) (prs_one w x y _) rfl (by omega) (fun i hi => ?_)).mono ?_)
  · obtain rfl : i = 0 := by omega
    exact h
  · rintro e w' ⟨G, c', rfl, h2, h3, h4, h5⟩
    refine ⟨_, _, rfl, G, c', rfl, h2, ?_, h4, nextB hB h5⟩
    rw [World.size_alloc] at h3; omega
theorem Turn_bad (a b : Nat) (g : Nat → Nat) (x y : Int) (ad : Option Addr) (c : Nat) (w : World) (hs : IsS a b g) (hI : Ints w ad (stL a g)) (h : ¬ HasP a b x y) :
    Calls Try.prog 23 #[.int .i64 (a : Int), .int .i64 (b : Int), .slice ad a c, .int .i64 x, .int .i64 y] w (ErrL 2 w) := by
  have hB := b1 w (.cells #[.int .i64 x, .int .i64 y] 31)
  refine Turn_of _ _ x y _ w _ ((Turns_bad a b g [(x, y)] ad _ c 1 1 _ hs (hI.next hB) (prs_one w x y _) rfl (by omega) (fun k => h (k 0 (by omega)))).mono ?_)
  rintro e w' ⟨rfl, h2⟩
  exact ⟨_, _, rfl, rfl, nextB hB h2⟩
theorem Turn_no (a b : Int) (xs : List Int) (x y : Int) (ad : Option Addr) (n c : Nat) (w : World) (hI : Ints w ad xs) (hl : xs.length = n) (h : ¬ StP a b xs) :
    Calls Try.prog 23 #[.int .i64 a, .int .i64 b, .slice ad n c, .int .i64 x, .int .i64 y] w (ErrL 2 w) := by
  have hB := b1 w (.cells #[.int .i64 x, .int .i64 y] 31)
  refine Turn_of _ _ x y _ w _ ((Turns_no a b xs ad n c _ _ (hI.next hB) hl h).mono ?_)
  rintro e w' ⟨rfl, h2⟩
  exact ⟨_, _, rfl, rfl, nextB hB h2⟩
end Go.Proofs.Ytniknldeafmgaaa
