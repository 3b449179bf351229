/- Layer 2: slices.SortFunc of at most twelve pairs, handed the order of lines. -/
import Derived.Test.YtflbaadfbjpakaaBs
import Derived.Laws.Shifts
namespace Go.Proofs.Ytflbaadfbjpakaa
open Go Go.RowKit

set_option maxRecDepth 100000 in
set_option maxHeartbeats 1600000 in
theorem len64_any (n : Nat) (w : World) (h : n ≤ 12) : Calls Try.prog 106 #[.int .u64 n] w fun e w' => ∃ r : Int, e = .returned (.int .i64 r) ∧ w = w' := by
  have hn : n = 0 ∨ n = 1 ∨ n = 2 ∨ n = 3 ∨ n = 4 ∨ n = 5 ∨ n = 6 ∨ n = 7 ∨ n = 8 ∨ n = 9 ∨ n = 10 ∨ n = 11 ∨ n = 12 := by omega
  rcases hn with rfl | rfl | rfl | rfl | rfl | rfl | rfl | rfl | rfl | rfl | rfl | rfl | rfl
  all_goals
    go_enter Try.func106, Try.ntmps106
    go_wp2
    go_ret
    exact ⟨_, rfl, rfl⟩
set_option maxRecDepth 100000 in
theorem len_any (n : Nat) (w : World) (h : n ≤ 12) : Calls Try.prog 93 #[.int .u64 n] w fun e w' => ∃ r : Int, e = .returned (.int .i64 r) ∧ w = w' := by
  have K := fun W => len64_any n W h
  go_enter Try.func93, Try.ntmps93
  go_wp2_with (go_at_call 106; refine (K _).mono ?_; rintro e w1 ⟨r, rfl, rfl⟩)
  go_ret
  exact ⟨_, rfl, rfl⟩
/-- A list of pairs was put in order, in place. -/
def Sorts (base n : Nat) (v : Value) (L : List (Int × Int)) (w : World) (e : Ending) (w' : World) : Prop :=
  e = .returned (.tuple #[]) ∧ ∃ M, M.Perm L ∧ SortedP M ∧ w'.ownsRow base 60 2 v n (cP M) ∧ Below base w w'
set_option maxRecDepth 100000 in
set_option maxHeartbeats 1600000 in
theorem insertion_none (a : Option Addr) (cap : Nat) (w : World) :
    Calls Try.prog 97 #[.slice a (0 : Nat) cap, .int .i64 0, .int .i64 (0 : Nat), cmpV] w (Only (.tuple #[]) w) := by
  go_enter Try.func97, Try.ntmps97
  go_wp2
  go_loop [8] (fun i => i = .int .i64 1) (fun i => 0)
  case atStart => rfl
  case round =>
    subst hrel
    go_wp2
    go_end0
    exact Only.mk rfl
theorem insertion_sorts (base : Nat) (a : Option Addr) (n cap : Nat) (L : List (Int × Int)) (w : World) (hl : L.length = n) (h60 : n ≤ 1000)
    (hown : w.ownsRow base 60 2 (.slice a n cap) n (cP L)) :
    Calls Try.prog 97 #[.slice a n cap, .int .i64 0, .int .i64 n, cmpV] w (Sorts base n (.slice a n cap) L w) := by
  by_cases h0 : n = 0
  · subst h0
    refine (insertion_none a cap w).mono ?_
    rintro e w' ⟨rfl, rfl⟩
    exact ⟨rfl, L, List.Perm.refl _, fun i j h1 h2 => by omega, hown, Below.refl _ _⟩
  · rcases hown.2 with ⟨h', _⟩ | ⟨g', cap', cur, h', hb, _⟩
    · simp at h'; omega
    · simp only [Value.slice.injEq, true_and] at h'
      obtain ⟨rfl, rfl⟩ := h'
      exact insertion_any base g' n cap L w hl h60 hb hown
set_option maxRecDepth 100000 in
set_option maxHeartbeats 1600000 in
theorem pdq_any (base : Nat) (a : Option Addr) (n cap : Nat) (L : List (Int × Int)) (lim : Int) (w : World) (hl : L.length = n) (h12 : n ≤ 12)
    (hown : w.ownsRow base 60 2 (.slice a n cap) n (cP L)) :
    Calls Try.prog 92 #[.slice a n cap, .int .i64 0, .int .i64 n, .int .i64 lim, cmpV] w (Sorts base n (.slice a n cap) L w) := by
  have K := Lib.hid (insertion_sorts base a n cap L w hl (by omega) hown)
  clear hown hl
  go_enter Try.func92, Try.ntmps92
  go_wp2
  refine wp_loop_rounds 1 ?_
  rw [rounds_succ]
  go_wp2_with (go_at_call 97; refine K.out.mono ?_; rintro e w1 ⟨rfl, hs⟩; replace hs := Lib.hid hs)
  go_end0
  exact ⟨rfl, hs.out⟩
set_option maxRecDepth 100000 in
set_option maxHeartbeats 1600000 in
theorem sortFunc_any (base : Nat) (a : Option Addr) (n cap : Nat) (L : List (Int × Int)) (w : World) (hl : L.length = n) (h12 : n ≤ 12)
    (hown : w.ownsRow base 60 2 (.slice a n cap) n (cP L)) :
    Calls Try.prog 84 #[.slice a n cap, cmpV] w (Sorts base n (.slice a n cap) L w) := by
  have K := Lib.hid (fun lim => pdq_any base a n cap L lim w hl h12 hown)
  have N := fun W => len_any n W h12
  clear hown hl
  go_enter Try.func84, Try.ntmps84
  go_wp2_with (first
    | (go_at_call 93; refine (N _).mono ?_; rintro e w1 ⟨r, rfl, rfl⟩)
    | (go_at_call 92; refine (K.out _).mono ?_; rintro e w1 ⟨rfl, hs⟩; replace hs := Lib.hid hs))
  go_end0
  exact ⟨rfl, hs.out⟩
end Go.Proofs.Ytflbaadfbjpakaa
