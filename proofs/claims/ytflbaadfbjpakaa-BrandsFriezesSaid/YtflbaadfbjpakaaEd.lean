/- Layer 2: all numbers; Between and Closed, by both sides. -/
import Derived.Test.YtflbaadfbjpakaaEb
import Derived.Test.YtflbaadfbjpakaaEc
namespace Go.Proofs.Ytflbaadfbjpakaa
open Go Go.RowKit

/-- The numbers from the corners below k on. -/
def upN (xs : List Int) (n : Nat) : Nat → Int → Int → Int
  | 0 => fun _ _ => 0
  | k + 1 => part (upN xs n k) xs k n
theorem upN_at (xs : List Int) (n : Nat) : ∀ (k i d : Nat), i < k → d ≤ n → ∀ a b : Int, a = i → b = (i : Int) + d → upN xs n k a b = eD xs i d := by
  intro k
  induction k with
  | zero => intro i d hi; omega
  | succ k ih =>
    intro i d hi hd a b ha hb
    rw [upN]
    by_cases e : i = k
    · subst e; rw [ha]; exact part_at _ _ hd hb
    · unfold part
      rw [if_neg (by omega)]
      exact ih i d (by omega) hd a b ha hb
set_option maxRecDepth 100000 in
set_option maxHeartbeats 1600000 in
theorem numbersOf_any (b off n cp : Nat) (xs : List Int) (w : World) (hR : RoundP xs) (hn : xs.length = n)
    (hcell : ∀ k, k < n → w.cell? ⟨b, off + k, none⟩ = some (.int .i64 (nth xs k))) :
    Calls Try.prog 57 #[.slice (some ⟨b, off, none⟩) n cp] w fun e w' => ∃ B c, e = .returned (.map (some B)) ∧ NumMap w' B c (upN xs n n) ∧ Below w.heap.size w w' := by
  have hmm := @run_makeMap Try.prog
  have h3 := hR.1
  have h12 := hR.2.1
  have hb : b < w.heap.size := block_lt_of_cell (hcell 0 (by omega))
  have A := Lib.hid (fun i (hi : i < n) wr c f (hN : NumMap wr w.heap.size c f) (B0 : Below w.heap.size w wr) hc => addFrom_any w.heap.size c b off n cp i w.heap.size f xs wr hN (Nat.le_refl _) B0.size hc hR hn hi (fun k hk => cellB B0 (hcell k hk)) hb)
  have hup := Lib.hid (fun d => show part (upN xs n d) xs d n = upN xs n (d + 1) from rfl)
  have N0 : NumMap (w.alloc (.map #[] 0)) w.heap.size 0 (upN xs n 0) := NumMap.made w
  have B0 := b1 w (.map #[] 0)
  have hn12 : n ≤ 12 := by omega
  clear hR hcell hn
  go_enter Try.func57, Try.ntmps57
  go_wp2
  generalize w.alloc (.map #[] 0) = W0 at *
  go_loopw [8] (fun k wr => ∃ d : Nat, d ≤ n ∧ k = .int .i64 d ∧ NumMap wr w.heap.size (d * (n + 1)) (upN xs n d) ∧ Below w.heap.size w wr) (fun k _ => n - (intOf k).toNat)
  case atStart => exact ⟨0, by omega, rfl, by rw [Nat.zero_mul]; exact N0, B0⟩
  case round =>
    clear N0 B0
    obtain ⟨d, hd, rfl, hN, B0⟩ := hrel
    have hc : d * (n + 1) ≤ 12 * 13 := Nat.mul_le_mul (by omega) (by omega)
    by_cases hlt : d < n
    · have A' := Lib.hid (A.out d hlt _ _ _ hN B0 (by omega))
      rw [hup.out] at A'
      go_wp2_with (go_at_call 60; refine A'.out.mono ?_; rintro e w1 ⟨rfl, hN1, B1⟩)
      have B2 := B0.trans B1
      go_roundw
      case rel => exact ⟨d + 1, by omega, by go_num, by rw [Nat.succ_mul]; exact hN1, B2⟩
      case measure => simp [intOf]; omega
    · obtain rfl : d = n := by omega
      go_wp2
      go_ret
      exact ⟨_, _, rfl, hN, B0⟩
/-- The arguments of Between that are allowed. -/
def BtwP (xs : List Int) (i k : Int) : Prop := RoundP xs ∧ CornP xs.length i ∧ i ≤ k ∧ k ≤ i + xs.length
set_option maxRecDepth 100000 in
set_option maxHeartbeats 1600000 in
theorem Between_yes (a : Option Addr) (n cp i D : Nat) (xs : List Int) (w : World) (h : Ints w a xs) (hn : xs.length = n) (hR : RoundP xs) (hi : i < n) (hD : D ≤ n) :
    Calls Try.prog 30 #[.slice a n cp, .int .i64 i, .int .i64 ((i : Int) + D)] w (Ret (.tuple #[.int .i64 (eD xs i D), .int .i64 0]) w) := by
  have hmm := @run_makeMap Try.prog
  have h3 := hR.1
  have h12 := hR.2.1
  have K := isRound_any a n cp xs w h hn (by omega)
  rw [decide_eq_true hR] at K
  replace K := Lib.hid K
  have C := isCorner_any n i
  rw [decide_eq_true (show CornP n i from ⟨by omega, by omega⟩)] at C
  obtain ⟨b, off, rfl, hc⟩ := ints_at h (by omega)
  rw [hn] at hc
  have hb : b < w.heap.size := block_lt_of_cell (hc 0 (by omega))
  have A := Lib.hid (addFrom_any w.heap.size 0 b off n cp i w.heap.size _ xs _ (NumMap.made w) (Nat.le_refl _) (b1 w _).size (by omega) hR hn hi (fun k hk => cellB (b1 w (.map #[] 0)) (hc k hk)) hb)
  have B0 := b1 w (.map #[] 0)
  have hat : Hid (∀ b : Int, b = (i : Int) + D → part (fun _ _ => 0) xs i n i b = eD xs i D) := Lib.hid fun b hb => part_at _ _ hD hb
  have hn12 : n ≤ 12 := by omega
  clear h hR hn
  have k1 : (i : Int) ≤ (i : Int) + D := by omega
  have k2 : (i : Int) + D ≤ (i : Int) + n := by omega
  go_enter Try.func30, Try.ntmps30
  go_wp2_with (first
    | (go_at_call 54; refine K.out.mono ?_; rintro e w1 ⟨rfl, rfl⟩)
    | (go_at_call 59; refine (C _).mono ?_; rintro e w1 ⟨rfl, rfl⟩)
    | (go_at_call 60; refine A.out.mono ?_; rintro e w1 ⟨rfl, hN1, B1⟩; have L1 := hN1.look (i := i) (k := (i : Int) + D) (wf_bd (by omega) (by omega)) (wf_bd (by omega) (by omega)); rw [hat.out _ rfl] at L1))
  go_ret2
  exact Ret.mk rfl (B0.trans B1)
set_option maxRecDepth 100000 in
set_option maxHeartbeats 1600000 in
theorem refBetween_yes (a : Option Addr) (n cp i D : Nat) (xs : List Int) (w : World) (h : Ints w a xs) (hn : xs.length = n) (hR : RoundP xs) (hi : i < n) (hD : D ≤ n) :
    Calls Try.prog 31 #[.slice a n cp, .int .i64 i, .int .i64 ((i : Int) + D)] w (Only (.tuple #[.int .i64 (eD xs i D), .int .i64 0]) w) := by
  have h3 := hR.1
  have h12 := hR.2.1
  have K := refIsRound_any a n cp xs w h hn (by omega)
  rw [decide_eq_true hR] at K
  replace K := Lib.hid K
  obtain ⟨b, off, rfl, hc⟩ := ints_at h (by omega)
  rw [hn] at hc
  have E := Lib.hid (refE_any b off n cp i D xs w hR hn hi hD hc)
  have hn12 : n ≤ 12 := by omega
  clear h hR hn hc
  have k1 : (i : Int) ≤ (i : Int) + D := by omega
  have k2 : (i : Int) + D ≤ (i : Int) + n := by omega
  go_enter Try.func31, Try.ntmps31
  go_wp2_with (first
    | (go_at_call 44; refine K.out.mono ?_; rintro e w1 ⟨rfl, rfl⟩)
    | (go_at_call 58; refine E.out.mono ?_; rintro e w1 ⟨rfl, rfl⟩))
  go_ret2
  exact Only.mk rfl
set_option maxRecDepth 100000 in
set_option maxHeartbeats 1600000 in
theorem Between_no (a : Option Addr) (n cp : Nat) (i k : Int) (xs : List Int) (w : World) (h : Ints w a xs) (hn : xs.length = n) (hm : n ≤ 4611686018427387904) (hB : ¬ BtwP xs i k) :
    Calls Try.prog 30 #[.slice a n cp, .int .i64 i, .int .i64 k] w (Ret (.tuple #[.int .i64 0, .int .i64 2]) w) := by
  have K := Lib.hid (isRound_any a n cp xs w h hn hm)
  have C := Lib.hid (fun W => isCorner_any n i W)
  unfold BtwP at hB
  rw [hn] at hB
  by_cases hR : RoundP xs
  · rw [decide_eq_true hR] at K
    have h12 := hR.2.1
    by_cases hC : CornP n i
    · rw [decide_eq_true hC] at C
      have hcase : k < i ∨ (i ≤ k ∧ i + n < k) := by
        refine Classical.byContradiction fun hh => hB ⟨hR, hC, by omega, by omega⟩
      obtain ⟨c0, c1⟩ := hC
      clear hB hR h
      rcases hcase with h1 | ⟨h1, h2⟩
      all_goals (
        go_enter Try.func30, Try.ntmps30
        go_wp2_with (first
          | (go_at_call 54; refine K.out.mono ?_; rintro e w1 ⟨rfl, rfl⟩)
          | (go_at_call 59; refine (C.out _).mono ?_; rintro e w1 ⟨rfl, rfl⟩))
        go_ret2
        exact Ret.mk rfl (Below.refl _ _))
    · rw [decide_eq_false hC] at C
      clear hB hR h hC
      go_enter Try.func30, Try.ntmps30
      go_wp2_with (first
        | (go_at_call 54; refine K.out.mono ?_; rintro e w1 ⟨rfl, rfl⟩)
        | (go_at_call 59; refine (C.out _).mono ?_; rintro e w1 ⟨rfl, rfl⟩))
      go_ret2
      exact Ret.mk rfl (Below.refl _ _)
  · rw [decide_eq_false hR] at K
    clear hB hR h C
    go_enter Try.func30, Try.ntmps30
    go_wp2_with (go_at_call 54; refine K.out.mono ?_; rintro e w1 ⟨rfl, rfl⟩)
    go_ret2
    exact Ret.mk rfl (Below.refl _ _)
set_option maxRecDepth 100000 in
set_option maxHeartbeats 1600000 in
theorem refBetween_no (a : Option Addr) (n cp : Nat) (i k : Int) (xs : List Int) (w : World) (h : Ints w a xs) (hn : xs.length = n) (hm : n ≤ 4611686018427387904) (hB : ¬ BtwP xs i k) :
    Calls Try.prog 31 #[.slice a n cp, .int .i64 i, .int .i64 k] w (Only (.tuple #[.int .i64 0, .int .i64 2]) w) := by
  have K := Lib.hid (refIsRound_any a n cp xs w h hn hm)
  unfold BtwP at hB
  rw [hn] at hB
  by_cases hR : RoundP xs
  · rw [decide_eq_true hR] at K
    have h12 := hR.2.1
    have hcase : i < 0 ∨ (0 ≤ i ∧ (n : Int) ≤ i) ∨ (0 ≤ i ∧ i < n ∧ k < i) ∨ (0 ≤ i ∧ i < n ∧ i ≤ k ∧ i + n < k) := by
      unfold CornP at hB
      refine Classical.byContradiction fun hh => hB ⟨hR, ⟨by omega, by omega⟩, by omega, by omega⟩
    clear hB hR h
    rcases hcase with h1 | ⟨h1, h2⟩ | ⟨h1, h2, h3⟩ | ⟨h1, h2, h3, h4⟩
    all_goals (
      go_enter Try.func31, Try.ntmps31
      go_wp2_with (go_at_call 44; refine K.out.mono ?_; rintro e w1 ⟨rfl, rfl⟩)
      go_ret2
      exact Only.mk rfl)
  · rw [decide_eq_false hR] at K
    clear hB hR h
    go_enter Try.func31, Try.ntmps31
    go_wp2_with (go_at_call 44; refine K.out.mono ?_; rintro e w1 ⟨rfl, rfl⟩)
    go_ret2
    exact Only.mk rfl
end Go.Proofs.Ytflbaadfbjpakaa
