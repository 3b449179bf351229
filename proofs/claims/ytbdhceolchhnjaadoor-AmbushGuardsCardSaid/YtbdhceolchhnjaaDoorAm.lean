/- Layer 4, by the program: who wins, for every turn; a new game. -/
import Derived.Test.YtbdhceolchhnjaaDoorAl
namespace Go.Proofs.YtbdhceolchhnjaaDoor
open Go Go.RowKit

theorem tk_pos {m x y s i : Nat} (hp : PosP m x y) (hi : i ∈ frL m x y) (hs : s < 2) : PosP m (tkW x s i) (tkD y s i) ∧ (frL m (tkW x s i) (tkD y s i)).length + 1 = (frL m x y).length := by
  obtain ⟨h1, h2, h3⟩ := frL_mem.1 hi
  obtain rfl | rfl : s = 0 ∨ s = 1 := by omega
  · unfold tkW tkD
    simp only [if_true]
    rw [or_eq_add h2]
    exact ⟨hp.takeW hi, frL_takeW hi⟩
  · unfold tkW tkD
    rw [if_neg (by omega), if_neg (by omega), or_eq_add h3]
    exact ⟨hp.takeD hi, frL_takeD hi⟩
theorem PosP.lt {m x y : Nat} (hp : PosP m x y) (hm : m ≤ 9) : x < 512 ∧ y < 512 := by
  have := hp.hw; have := hp.hd; have := pw_mono hm; have h4 : pw 9 = 512 := rfl
  omega
section
variable (m : Nat) (a : Option Addr) (n c : Nat) (R : List Int) (B : Nat) (w0 : World)
theorem winner_any (hF : FieldP m R) (hn : R.length = n) : ∀ k x y s w, (frL m x y).length = k → StG m a R B w0 w → PosP m x y → s < 2 →
    Calls Tryd.prog 42 #[gV m a n c B, tV x y s] w (RetK m R B (.int .i64 (sd (win m R x y (s == 1)) : Nat)) w) := by
  intro k
  induction k using Nat.strongRecOn with
  | _ k ih =>
    intro x y s w hk hst hp hs
    obtain ⟨hx, hy⟩ := hp.lt hF.le
    refine winner_step m a n c R B x y s w0 w hF hn hst hp hs fun hw w1 h1 h2 => ?_
    refine decide_any m a n c R B x y s w0 w1 hF (hst.step h1 h2) hp hs hw fun i hi w2 h3 h4 => ?_
    have him : i < 16 := by have := (frL_mem.1 hi).1; have := hF.le; omega
    refine wins_any m a n c R B x y s i w2 h4 (by omega) (by omega) hs him fun w3 h5 h6 => ?_
    obtain ⟨p1, p2⟩ := tk_pos hp hi hs
    exact ih _ (by omega) _ _ _ _ rfl ((hst.step h1 h2).step (h3.trans h5) h6) p1 (by omega)
theorem winsAll_any (hF : FieldP m R) (hn : R.length = n) {x y s i : Nat} {w : World} (hst : StG m a R B w0 w) (hp : PosP m x y) (hs : s < 2) (hi : i ∈ frL m x y) :
    Calls Tryd.prog 77 #[gV m a n c B, tV x y s, .int .i64 (i : Nat)] w (RetK m R B (.bool (wB m R x y s i)) w) := by
  obtain ⟨hx, hy⟩ := hp.lt hF.le
  have him : i < 16 := by have := (frL_mem.1 hi).1; have := hF.le; omega
  refine wins_any m a n c R B x y s i w hst.km (by omega) (by omega) hs him fun w3 h5 h6 => ?_
  obtain ⟨p1, p2⟩ := tk_pos hp hi hs
  exact winner_any m a n c R B w0 hF hn _ _ _ _ _ rfl (hst.step h5 h6) p1 (by omega)
end
/-- A new game was returned. -/
def NewG (m : Nat) (a : Option Addr) (n c : Nat) (R : List Int) (w : World) (e : Ending) (w' : World) : Prop := ∃ B, e = .returned (gV m a n c B) ∧ w.heap.size ≤ B ∧ KM m R B w' ∧ Below w.heap.size w w'
set_option maxRecDepth 100000 in
theorem newGameA_any (m : Nat) (a : Option Addr) (n c : Nat) (R : List Int) (w : World) : Calls Tryd.prog 41 #[fV m a n c] w (NewG m a n c R w) := by
  have hR2 : Blk ((w.alloc (.cells #[.int .i64 (m : Nat), .slice a n c] 60)).alloc (.cells #[.int .i64 (m : Nat), .slice a n c, .map (some (w.heap.size + 1 + 1))] 70)) (w.heap.size + 1) 70 #[.int .i64 (m : Nat), .slice a n c, .map (some (w.heap.size + 1 + 1))] := by
    have := Blk.new (w.alloc (.cells #[.int .i64 (m : Nat), .slice a n c] 60)) 70 #[.int .i64 (m : Nat), .slice a n c, .map (some (w.heap.size + 1 + 1))]
    simpa using this
  have hR3 := hR2.alloc (.map #[] 0)
  obtain ⟨s0, s1, s2⟩ := hR3.c3
  have hb := b3 w (.cells #[.int .i64 (m : Nat), .slice a n c] 60) (.cells #[.int .i64 (m : Nat), .slice a n c, .map (some (w.heap.size + 1 + 1))] 70) (.map #[] 0)
  have hK := KM.made m R ((w.alloc (.cells #[.int .i64 (m : Nat), .slice a n c] 60)).alloc (.cells #[.int .i64 (m : Nat), .slice a n c, .map (some (w.heap.size + 1 + 1))] 70))
  have hsz : ((w.alloc (.cells #[.int .i64 (m : Nat), .slice a n c] 60)).alloc (.cells #[.int .i64 (m : Nat), .slice a n c, .map (some (w.heap.size + 1 + 1))] 70)).heap.size = w.heap.size + 1 + 1 := by simp
  rw [hsz] at hK
  replace hK := Lib.hid hK
  replace hb := Lib.hid hb
  replace hR2 := Lib.hid hR2
  replace hR3 := Lib.hid hR3
  clear hsz
  have z0 := Lib.hid s0
  have z1 := Lib.hid s1
  have z2 := Lib.hid s2
  clear s0 s1 s2
  have hmm := @run_makeMap Tryd.prog
  go_enter Tryd.func41, Tryd.ntmps41
  go_wp2
  generalize ((w.alloc (.cells #[.int .i64 (m : Nat), .slice a n c] 60)).alloc (.cells #[.int .i64 (m : Nat), .slice a n c, .map (some (w.heap.size + 1 + 1))] 70)).alloc (.map #[] 0) = V at *
  have s0 := z0.out
  have s1 := z1.out
  have s2 := z2.out
  refine bodyPost_ret (v := gV m a n c (w.heap.size + 1 + 1)) (by simp [results, Tryd.results41, go_sem, s0, s1, s2]) rfl ?_
  exact ⟨_, rfl, by omega, hK.out, hb.out⟩
end Go.Proofs.YtbdhceolchhnjaaDoor
