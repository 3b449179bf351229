/- Layer 7, by the program: Nim and Whole. -/
import Derived.Test.YtdafpjapepfniaaWh
namespace Go.Proofs.Ytdafpjapepfniaa
open Go Go.RowKit

abbrev nimH (n l : Nat) : Hp := ⟨(n : Int), 0, 0, 0, 0, 0, (l : Int)⟩
/-- The one move that is tried. -/
def nimL (n l : Nat) : List Hp := if 0 < n ∧ tl n ≤ l then [nimH (n - tl n) (2 * tl n)] else []
def nimF (x : Hp) : Bool := nimW x.s0.toNat x.lim.toNat
theorem tl_pos {n : Nat} : 0 < tl n ↔ 0 < n := by
  constructor
  · intro h
    rcases Nat.eq_zero_or_pos n with rfl | h1
    · rw [tl_zero] at h; omega
    · exact h1
  · intro h; exact (tl_le n h).1
theorem tl_bd (n : Nat) : tl n ≤ n := by
  rcases Nat.eq_zero_or_pos n with rfl | h1
  · rw [tl_zero]; omega
  · exact (tl_le n h1).2
theorem hBlk_new (W : World) (x : Hp) : HBlk (W.alloc (.cells (hC x) 60)) W.heap.size [x] := ⟨_, Blk.new W _ _, by simp [hL]⟩
set_option maxRecDepth 100000 in
theorem nim1_any (n l : Nat) (w : World) (hn : n ≤ 1099511627776) : Calls Try.prog 72 #[hV (nimH n l)] w (NewH (nimL n l) w) := by
  have T := Lib.hid (fun W => tail_any n W hn)
  have ht := tl_bd n
  have htp := @tl_pos n
  have B := Lib.hid (b1 w (.cells (hC (nimH n l)) 60))
  have hb := Blk.new w 60 (hC (nimH n l))
  by_cases h : 0 < n ∧ tl n ≤ l
  · have hL : Hid (nimL n l = [nimH (n - tl n) (2 * tl n)]) := Lib.hid (if_pos h)
    obtain ⟨h1, h2⟩ := h
    have h3 : 0 < tl n := htp.2 h1
    clear htp
    rw [hL.out]
    obtain ⟨t, htt⟩ : ∃ t, Hid (tl n = t) := ⟨_, Lib.hid rfl⟩
    rw [htt.out] at ht h2 h3 T ⊢
    have h2' : (t : Int) ≤ (l : Int) := by omega
    have h3' : ((t : Int) == 0) = false := by simp; omega
    have e1 : (((n - t : Nat) : Nat) : Int) = (n : Int) - (t : Int) := by omega
    have e2 : (((2 * t : Nat) : Nat) : Int) = 2 * (t : Int) := by omega
    have hM := Lib.hid (fun W => matches_any ((n : Int) - (t : Int)) (2 * (t : Int)) W)
    have hE : Hid (nimH (n - t) (2 * t) = ⟨(n : Int) - (t : Int), 0, 0, 0, 0, 0, 2 * (t : Int)⟩) := Lib.hid (by rw [nimH, e1, e2])
    clear e1 e2
    rw [hE.out]
    go_enter Try.func72, Try.ntmps72
    have x0 := hb.c 0 rfl
    have x6 := hb.c 6 rfl
    go_wp2_with (first
      | (go_at_call 73; refine (T.out _).mono ?_; rintro e w1 ⟨rfl, hb1⟩; have B1 := Lib.hid (nextB B.out hb1); have hx := Blk.ext hb hb1; have y0 := hx.c 0 rfl; have y6 := hx.c 6 rfl; clear hx)
      | (go_at_call 49; refine (hM.out _).mono ?_; rintro e w2 ⟨rfl, hb2⟩; have B2 := Lib.hid (nextB B1.out hb2)))
    go_ret
    exact ⟨_, 1, rfl, by simp, fun _ => ⟨_, rfl, by have := B2.out.size; omega, hBlk_new w2 ⟨(n : Int) - (t : Int), 0, 0, 0, 0, 0, 2 * (t : Int)⟩⟩, nextB B2.out (b1 _ _)⟩
  · have hL : Hid (nimL n l = []) := Lib.hid (if_neg h)
    rw [hL.out]
    have h' : tl n = 0 ∨ 0 < tl n ∧ l < tl n := by omega
    clear htp h
    obtain ⟨t, htt⟩ : ∃ t, Hid (tl n = t) := ⟨_, Lib.hid rfl⟩
    rw [htt.out] at ht h' T
    rcases h' with rfl | ⟨h2, h3⟩
    · go_enter Try.func72, Try.ntmps72
      have x0 := hb.c 0 rfl
      go_wp2_with (go_at_call 73; refine (T.out _).mono ?_; rintro e w1 ⟨rfl, hb1⟩; have B1 := Lib.hid (nextB B.out hb1); have hx := Blk.ext hb hb1; have y0 := hx.c 0 rfl; have y6 := hx.c 6 rfl; clear hx)
      go_ret
      exact ⟨_, 0, rfl, by simp, (fun h => absurd h (by simp)), B1.out⟩
    · have h2' : (l : Int) < (t : Int) := by omega
      have h3' : ((t : Int) == 0) = false := by simp; omega
      go_enter Try.func72, Try.ntmps72
      have x0 := hb.c 0 rfl
      go_wp2_with (go_at_call 73; refine (T.out _).mono ?_; rintro e w1 ⟨rfl, hb1⟩; have B1 := Lib.hid (nextB B.out hb1); have hx := Blk.ext hb hb1; have y0 := hx.c 0 rfl; have y6 := hx.c 6 rfl; clear hx)
      go_ret
      exact ⟨_, 0, rfl, by simp, (fun h => absurd h (by simp)), B1.out⟩
set_option maxRecDepth 100000 in
theorem nim2_any (n l : Nat) (w : World) (hn : n ≤ 1099511627776) : Calls Try.prog 74 #[hV (nimH n l)] w (Ret (.bool (nimW n l)) w) := by
  have T := Lib.hid (fun W => tail_any n W hn)
  have htp := @tl_pos n
  have B := Lib.hid (b1 w (.cells (hC (nimH n l)) 60))
  have hb := Blk.new w 60 (hC (nimH n l))
  have hW : Hid (nimW n l = decide (0 < tl n ∧ tl n ≤ l)) := Lib.hid (by unfold nimW; rw [decide_eq_decide, htp])
  rw [hW.out]
  clear htp
  obtain ⟨t, htt⟩ : ∃ t, Hid (tl n = t) := ⟨_, Lib.hid rfl⟩
  rw [htt.out] at T ⊢
  obtain ⟨r, hr⟩ : ∃ r, Hid (decide (0 < t ∧ t ≤ l) = r) := ⟨_, Lib.hid rfl⟩
  rw [hr.out]
  by_cases h1 : 0 < t
  · have h1' : (0 : Int) < (t : Int) := by omega
    by_cases h2 : t ≤ l
    all_goals
      have h2'' := Lib.hid h2
      go_enter Try.func74, Try.ntmps74
      have x0 := hb.c 0 rfl
      go_wp2_with (go_at_call 73; refine (T.out _).mono ?_; rintro e w1 ⟨rfl, hb1⟩; have B1 := Lib.hid (nextB B.out hb1); have hx := Blk.ext hb hb1; have y0 := hx.c 0 rfl; have y6 := hx.c 6 rfl; clear hx)
      go_ret
      exact Ret.mk (by rw [← hr.out]; simp; omega) B1.out
  · obtain rfl : t = 0 := by omega
    go_enter Try.func74, Try.ntmps74
    have x0 := hb.c 0 rfl
    go_wp2_with (go_at_call 73; refine (T.out _).mono ?_; rintro e w1 ⟨rfl, hb1⟩; have B1 := Lib.hid (nextB B.out hb1); have hx := Blk.ext hb hb1; have y0 := hx.c 0 rfl; have y6 := hx.c 6 rfl; clear hx)
    go_ret
    exact Ret.mk (by rw [← hr.out]; simp) B1.out
/-- The first winning move, as best finds it. -/
theorem nim_first (n l : Nat) : ((nimL n l).filter fun x => !nimF x).head? = if nimW n l then some (nimH (n - tl n) (2 * tl n)) else none := by
  unfold nimL nimW
  by_cases h : 0 < n ∧ tl n ≤ l
  · have e : nimF (nimH (n - tl n) (2 * tl n)) = false := by unfold nimF; exact nim_tail n h.1
    rw [if_pos h]
    simp [e, h]
  · rw [if_neg h]; simp [h]
theorem nim_best (n l : Nat) (w : World) (hn : n ≤ 1099511627776) :
    Calls Try.prog 48 #[gmV 72 #[] 74 #[], hV (nimH n l)] w (BestR none (fun A => w.heap.size ≤ A.heap.size) (if nimW n l then some (nimH (n - tl n) (2 * tl n)) else none) w) := by
  rw [← nim_first]
  refine best_gen none w.heap.size _ _ _ _ _ _ _ nimF w (fun args W => by go_simp) (fun args W => by go_simp) (fun A _ => nim1_any n l A hn) (fun A x hx hA => ?_) (fun A B r hA _ hg => Nat.le_trans hA hg.size) (fun A hA => hA) (fun k hk => by cases hk) (by unfold nimL; split <;> simp) (Nat.le_refl _)
  unfold nimL at hx
  split at hx
  · rw [List.mem_singleton] at hx
    subst hx
    exact (nim2_any (n - tl n) (2 * tl n) A (by omega)).mono fun e B ⟨h1, h2⟩ => ⟨h1, grown_below h2 _, Nat.le_trans hA h2.size⟩
  · cases hx
/-- What Nim returns. -/
abbrev numV (x e : Int) : Value := .tuple #[.int .i64 x, .int .i64 e]
def nimV (n l : Nat) : Value := if nimW n l then numV (tl n) 0 else numV 0 10
set_option maxRecDepth 100000 in
theorem Nim_yes (n l : Nat) (w : World) (hn : n ≤ 1099511627776) (hl : l ≤ 1099511627776) : Calls Try.prog 19 #[.int .i64 (n : Int), .int .i64 (l : Int)] w (Ret (nimV n l) w) := by
  have H1 := isHeap_any n
  rw [decide_eq_true (show HeapP (n : Int) from ⟨by omega, by omega⟩)] at H1
  have H2 := isHeap_any l
  rw [decide_eq_true (show HeapP (l : Int) from ⟨by omega, by omega⟩)] at H2
  replace H1 := Lib.hid H1
  replace H2 := Lib.hid H2
  have F := Lib.hid (fun W => fibonacciNim_any W)
  have M := Lib.hid (fun W => matches_any (n : Int) (l : Int) W)
  have B := Lib.hid (fun W => nim_best n l W hn)
  have ht := tl_bd n
  have hv : Hid (nimV n l = if nimW n l then numV (tl n) 0 else numV 0 10) := Lib.hid rfl
  obtain ⟨t, htt⟩ : ∃ t, Hid (tl n = t) := ⟨_, Lib.hid rfl⟩
  rw [htt.out] at ht hv B
  rw [hv.out]
  have e1 : (((n - t : Nat) : Nat) : Int) = (n : Int) - (t : Int) := by omega
  have hE : Hid (nimH (n - t) (2 * t) = ⟨(n : Int) - (t : Int), 0, 0, 0, 0, 0, ((2 * t : Nat) : Int)⟩) := Lib.hid (by rw [nimH, e1])
  rw [hE.out] at B
  clear e1
  cases g : nimW n l
  · rw [g] at B
    simp only [Bool.false_eq_true, if_false] at B ⊢
    clear g
    go_enter Try.func19, Try.ntmps19
    go_wp2_with (first
      | (go_at_call 44; (with_reducible refine (H1.out _).mono ?_); rintro e w1 ⟨rfl, rfl⟩)
      | (go_at_call 44; (with_reducible refine (H2.out _).mono ?_); rintro e w1 ⟨rfl, rfl⟩)
      | (go_at_call 47; refine (F.out _).mono ?_; rintro e w1 ⟨rfl, hb1⟩; replace hb1 := Lib.hid hb1)
      | (go_at_call 49; refine (M.out _).mono ?_; rintro e w2 ⟨rfl, hb2⟩; replace hb2 := Lib.hid (nextB hb1.out hb2))
      | (go_at_call 48; refine (B.out _).mono ?_; rintro e w3 ⟨rfl, hg3, _⟩; have hb3 := Lib.hid (nextB hb2.out ⟨hg3.os, hg3.tape, hg3.output, hg3.size, fun i hi => hg3.block i hi (by simp)⟩); clear hg3; simp only [Option.getD_none, Option.isSome_none]))
    go_ret2
    exact Ret.mk rfl (nextB hb3.out (b1 _ _))
  · rw [g] at B
    simp only [if_true] at B ⊢
    clear g
    go_enter Try.func19, Try.ntmps19
    go_wp2_with (first
      | (go_at_call 44; (with_reducible refine (H1.out _).mono ?_); rintro e w1 ⟨rfl, rfl⟩)
      | (go_at_call 44; (with_reducible refine (H2.out _).mono ?_); rintro e w1 ⟨rfl, rfl⟩)
      | (go_at_call 47; refine (F.out _).mono ?_; rintro e w1 ⟨rfl, hb1⟩; replace hb1 := Lib.hid hb1)
      | (go_at_call 49; refine (M.out _).mono ?_; rintro e w2 ⟨rfl, hb2⟩; replace hb2 := Lib.hid (nextB hb1.out hb2))
      | (go_at_call 48; refine (B.out _).mono ?_; rintro e w3 ⟨rfl, hg3, _⟩; have hb3 := Lib.hid (nextB hb2.out ⟨hg3.os, hg3.tape, hg3.output, hg3.size, fun i hi => hg3.block i hi (by simp)⟩); clear hg3; simp only [Option.getD_some, Option.isSome_some]))
    go_ret2
    exact Ret.mk (by simp; omega) (nextB hb3.out (b1 _ _))
theorem Nim_no (n l : Int) (w : World) (h : ¬ (HeapP n ∧ HeapP l)) : Calls Try.prog 19 #[.int .i64 n, .int .i64 l] w (Only (numV 0 2) w) := by
  have H1 := isHeap_any n
  have H2 := isHeap_any l
  by_cases h1 : HeapP n
  · have h2 : ¬ HeapP l := fun h2 => h ⟨h1, h2⟩
    rw [decide_eq_true h1] at H1
    rw [decide_eq_false h2] at H2
    replace H1 := Lib.hid H1
    replace H2 := Lib.hid H2
    clear h h1 h2
    go_enter Try.func19, Try.ntmps19
    go_wp2_with (first
      | (go_at_call 44; (with_reducible refine (H1.out _).mono ?_); rintro e w1 ⟨rfl, rfl⟩)
      | (go_at_call 44; (with_reducible refine (H2.out _).mono ?_); rintro e w1 ⟨rfl, rfl⟩))
    go_ret2
    exact Only.mk rfl
  · rw [decide_eq_false h1] at H1
    replace H1 := Lib.hid H1
    clear h h1 H2
    go_enter Try.func19, Try.ntmps19
    go_wp2_with (go_at_call 44; (with_reducible refine (H1.out _).mono ?_); rintro e w1 ⟨rfl, rfl⟩)
    go_ret2
    exact Only.mk rfl
theorem nimV_num (n l : Nat) : ∃ x e : Int, nimV n l = numV x e := by unfold nimV; split <;> exact ⟨_, _, rfl⟩
theorem Whole_yes (n : Nat) (w : World) (h2 : 2 ≤ n) (hn : n ≤ 1099511627776) : Calls Try.prog 21 #[.int .i64 (n : Int)] w (Ret (nimV n (n - 1)) w) := by
  have N := fun W => Nim_yes n (n - 1) W hn (by omega)
  rw [show (((n - 1 : Nat) : Nat) : Int) = (n : Int) - 1 by omega] at N
  obtain ⟨x, e, hx⟩ := nimV_num n (n - 1)
  rw [hx] at N ⊢
  clear hx
  replace N := Lib.hid N
  go_enter Try.func21, Try.ntmps21
  go_wp2_with (go_at_call 19; refine (N.out _).mono ?_; rintro e w1 ⟨rfl, hb1⟩)
  go_ret2
  exact Ret.mk rfl hb1
theorem Whole_no (n : Int) (w : World) (h : n < 2 ∨ 1099511627776 < n) : Calls Try.prog 21 #[.int .i64 n] w (Only (numV 0 2) w) := by
  by_cases h2 : n < 2
  · clear h
    go_enter Try.func21, Try.ntmps21
    go_wp2
    go_ret2
    exact Only.mk rfl
  · have hm : 1099511627776 < n := by omega
    have N := fun l W => Nim_no n l W (fun hh => by have := hh.1.2; omega)
    replace N := Lib.hid N
    clear h
    go_enter Try.func21, Try.ntmps21
    go_wp2_with (go_at_call 19; refine (N.out _ _).mono ?_; rintro e w1 ⟨rfl, rfl⟩)
    go_ret2
    exact Only.mk rfl
end Go.Proofs.Ytdafpjapepfniaa
