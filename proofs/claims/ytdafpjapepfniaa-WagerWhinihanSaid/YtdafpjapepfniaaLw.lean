/- Layer 7, the laws: WagerWhinihan. -/
import Derived.Test.YtdafpjapepfniaaWx
namespace Go.Proofs.Ytdafpjapepfniaa
set_option linter.unusedSimpArgs false
set_option linter.unusedVariables false
open Go Go.RowKit

theorem tl_fib {n : Nat} (h : 0 < n) : tl n = n ↔ ∃ i, fb i = n := by
  constructor
  · intro e
    obtain ⟨l, a, _, _, _, h3⟩ := zx_last n h
    exact ⟨a, by rw [← h3, e]⟩
  · rintro ⟨i, rfl⟩
    have := tl_at (k := i + 1) (l := []) (a := i) ⟨by omega, trivial⟩
    rwa [List.nil_append, sm_cons, sm_nil, Nat.add_zero] at this
/-- The parts of a heap were returned; the last one is the tail. -/
def PartsR (m : Nat) (w : World) (e : Ending) (w' : World) : Prop := ∃ b off n c, e = .returned (.tuple #[.slice (some ⟨b, off, none⟩) n c, .int .i64 0]) ∧ 0 < n ∧ n ≤ 58 ∧ w'.cell? ⟨b, off + (n - 1), none⟩ = some (.int .i64 ((tl m : Nat) : Int)) ∧ Below w.heap.size w w'
theorem parts_pos (m : Nat) (w : World) (hm : m ≤ 1099511627776) (h0 : 0 < m) : Calls Try.prog 16 #[.int .i64 (m : Int)] w (PartsR m w) :=
  (Parts_yes m w hm).mono fun e w' ⟨a, c, h1, h2, h3, h4⟩ => by
    have hl := zx_len m hm
    have h5 := lastTo_tl m
    have hpos : 0 < (zx m).length := by
      rcases Nat.eq_zero_or_pos (zx m).length with h | h
      · have := zx_sum m
        rw [List.eq_nil_of_length_eq_zero h, sm_nil] at this
        omega
      · exact h
    rw [fI_length] at h1 h5
    obtain ⟨b, off, rfl, hc⟩ : ∃ b off, a = some ⟨b, off, none⟩ ∧ ∀ i, i < (zx m).length → w'.cell? ⟨b, off + i, none⟩ = some (.int .i64 (nth (fI (zx m)) i)) := by
      rcases h3 with h | ⟨b, off, e, h⟩
      · rw [fI_length] at h; omega
      · exact ⟨b, off, e, fun i hi => h i (by rw [fI_length]; exact hi)⟩
    refine ⟨b, off, _, c, h1, hpos, hl, ?_, h4⟩
    rw [hc _ (by omega), ← h5]
    unfold lastTo
    rw [if_neg (by omega)]
theorem parts_none (w : World) : Calls Try.prog 16 #[.int .i64 0] w (fun e w' => ∃ a c, e = .returned (.tuple #[.slice a 0 c, .int .i64 0]) ∧ Below w.heap.size w w') :=
  (Parts_yes 0 w (by omega)).mono fun e w' ⟨a, c, h1, _, _, h4⟩ => ⟨a, c, h1, h4⟩
set_option maxRecDepth 100000 in
set_option maxHeartbeats 4000000 in
theorem whinihan_law (n0 l0 : Nat) (w : World) (h1 : n0 ≤ 18446744073709551615) (h2 : l0 ≤ 18446744073709551615) :
    Calls Try.prog 9 #[.int .u64 (n0 : Int), .int .u64 (l0 : Int)] w (Ret (.bool true) w) := by
  have A1 := Lib.hid (fun W => heap_any n0 W h1)
  have A2 := Lib.hid (fun W => heap_any l0 W h2)
  have hm := hpN_le n0
  have hl := hpN_le l0
  generalize hpN n0 = m at *
  generalize hpN l0 = l at *
  have AL := Lib.hid alive_any
  have K1 := fun W => Nim_yes m l W hm hl
  by_cases h0 : m = 0
  · subst h0
    have P := Lib.hid parts_none
    have hv : nimV 0 l = numV 0 10 := rfl
    rw [hv] at K1
    replace K1 := Lib.hid K1
    have K2 := Lib.hid (fun W => Whole_no ((0 : Nat) : Int) W (.inl (by omega)))
    have IX : Hid (∀ W : World, Calls Try.prog 39 #[.int .i64 ((0 : Nat) : Int)] W (Only (.int .i64 (-1)) W)) := Lib.hid (fun W => index_no 0 W (fun i e => by have := fb_pos i; omega) hm)
    clear hv
    have e0 : ((0 : Nat) : Int) = 0 := rfl
    rw [e0] at A1 K1 K2 IX
    clear e0
    · go_enter Try.func9, Try.ntmps9
      go_wp2_with (first
        | (go_at_call 38; (with_reducible refine (A1.out _).mono ?_); rintro e w1 ⟨rfl, rfl⟩)
        | (go_at_call 38; (with_reducible refine (A2.out _).mono ?_); rintro e w1 ⟨rfl, rfl⟩)
        | (go_at_call 16; refine (P.out _).mono ?_; rintro e w2 ⟨a, c, rfl, hb2⟩; replace hb2 := Lib.hid hb2)
        | (go_at_call 19; (with_reducible refine (K1.out _).mono ?_); rintro e w3 ⟨rfl, hb3⟩; replace hb2 := Lib.hid (nextB hb2.out hb3))
        | (go_at_call 21; (with_reducible refine (K2.out _).mono ?_); rintro e w4 ⟨rfl, rfl⟩)
        | (go_at_call 39; (with_reducible refine (IX.out _).mono ?_); rintro e w5 ⟨rfl, rfl⟩)
        | (go_at_call 23; refine (AL.out _).mono ?_; rintro e w6 ⟨rfl, hb6⟩))
      go_ret
      exact Ret.mk rfl (nextB hb2.out hb6)
  · have P := Lib.hid (fun W => parts_pos m W hm (by omega))
    obtain ⟨t1, t2⟩ := tl_le m (by omega)
    have hfib := tl_fib (n := m) (by omega)
    have hnv : nimV m l = if tl m ≤ l then numV (tl m) 0 else numV 0 10 := by
      unfold nimV nimW
      by_cases h : tl m ≤ l
      · rw [if_pos h, decide_eq_true (show 0 < m ∧ tl m ≤ l from ⟨by omega, h⟩)]; rfl
      · rw [if_neg h, decide_eq_false (fun hh => h hh.2)]; rfl
    have hwv : nimV m (m - 1) = if tl m = m then numV 0 10 else numV (tl m) 0 := by
      unfold nimV nimW
      by_cases h : tl m = m
      · rw [if_pos h, decide_eq_false (fun hh => by omega)]; rfl
      · rw [if_neg h, decide_eq_true (show 0 < m ∧ tl m ≤ m - 1 from ⟨by omega, by omega⟩)]; rfl
    rw [hnv] at K1
    have K2a := fun (h : 2 ≤ m) W => Whole_yes m W h hm
    rw [hwv] at K2a
    have K2b := fun (h : (m : Int) < 2) W => Whole_no (m : Int) W (.inl h)
    clear hnv hwv
    unfold PartsR at P
    generalize tl m = t at *
    have hm0 : (0 : Int) < (m : Int) := by omega
    have hm1 : ((m : Int) == 0) = false := by rw [beq_eq_false_iff_ne]; omega
    have hfib := Lib.hid hfib
    by_cases htl : t ≤ l
    · rw [if_pos htl] at K1
      replace K1 := Lib.hid K1
      have htl' : (t : Int) ≤ (l : Int) := by omega
      by_cases h2m : m < 2
      · have h2m' : (m : Int) < 2 := by omega
        have K2 := Lib.hid (K2b h2m')
        have IX : Hid (∀ W : World, Calls Try.prog 39 #[.int .i64 (m : Int)] W (Only (.int .i64 (-1)) W) → True) := Lib.hid (fun _ _ => trivial)
        clear K2a K2b h2m
        go_enter Try.func9, Try.ntmps9
        go_wp2_with (first
          | (go_at_call 38; (with_reducible refine (A1.out _).mono ?_); rintro e w1 ⟨rfl, rfl⟩)
          | (go_at_call 38; (with_reducible refine (A2.out _).mono ?_); rintro e w1 ⟨rfl, rfl⟩)
          | (go_at_call 16; refine (P.out _).mono ?_; rintro e w2 ⟨b, off, k, c, rfl, hk0, hk58, hx, hb2⟩; replace hb2 := Lib.hid hb2; have z0 : ((k : Int) == 0) = false := (by rw [beq_eq_false_iff_ne]; omega); have z1 : (0 : Int) ≤ (k : Int) - 1 := (by omega); have z2 : ((k : Int) - 1).toNat = k - 1 := (by omega); have z3 : (k : Int) - 1 < (k : Int) := (by omega))
          | (go_at_call 19; (with_reducible refine (K1.out _).mono ?_); rintro e w3 ⟨rfl, hb3⟩; have hx := cellB hb3 hx; replace hb2 := Lib.hid (nextB hb2.out hb3))
          | (go_at_call 21; (with_reducible refine (K2.out _).mono ?_); rintro e w4 ⟨rfl, rfl⟩)
          | (go_at_call 39; (with_reducible refine (AL.out _).mono ?_); rintro e w5 ⟨rfl, rfl⟩)
          | (go_at_call 23; refine (AL.out _).mono ?_; rintro e w6 ⟨rfl, hb6⟩))
        go_ret
        exact Ret.mk rfl (nextB hb2.out hb6)
      · have h2m' : (2 : Int) ≤ (m : Int) := by omega
        by_cases hf : t = m
        · obtain ⟨i, hi⟩ := hfib.out.1 hf
          have K2 := K2a (by omega)
          rw [if_pos hf] at K2
          replace K2 := Lib.hid K2
          have IX := Lib.hid (fun W => index_yes i m W hi hm)
          have hi0 : (0 : Int) ≤ (i : Int) := by omega
          clear K2a K2b h2m hf hi
          go_enter Try.func9, Try.ntmps9
          go_wp2_with (first
            | (go_at_call 38; (with_reducible refine (A1.out _).mono ?_); rintro e w1 ⟨rfl, rfl⟩)
            | (go_at_call 38; (with_reducible refine (A2.out _).mono ?_); rintro e w1 ⟨rfl, rfl⟩)
            | (go_at_call 16; refine (P.out _).mono ?_; rintro e w2 ⟨b, off, k, c, rfl, hk0, hk58, hx, hb2⟩; replace hb2 := Lib.hid hb2; have z0 : ((k : Int) == 0) = false := (by rw [beq_eq_false_iff_ne]; omega); have z1 : (0 : Int) ≤ (k : Int) - 1 := (by omega); have z2 : ((k : Int) - 1).toNat = k - 1 := (by omega); have z3 : (k : Int) - 1 < (k : Int) := (by omega))
            | (go_at_call 19; (with_reducible refine (K1.out _).mono ?_); rintro e w3 ⟨rfl, hb3⟩; have hx := cellB hb3 hx; replace hb2 := Lib.hid (nextB hb2.out hb3))
            | (go_at_call 21; (with_reducible refine (K2.out _).mono ?_); rintro e w4 ⟨rfl, hb4⟩; have hx := cellB hb4 hx; replace hb2 := Lib.hid (nextB hb2.out hb4))
            | (go_at_call 39; (with_reducible refine (IX.out _).mono ?_); rintro e w5 ⟨rfl, rfl⟩)
            | (go_at_call 23; refine (AL.out _).mono ?_; rintro e w6 ⟨rfl, hb6⟩))
          go_ret
          exact Ret.mk rfl (nextB hb2.out hb6)
        · have K2 := K2a (by omega)
          rw [if_neg hf] at K2
          replace K2 := Lib.hid K2
          have IX := Lib.hid (fun W => index_no m W (fun i e => hf (hfib.out.2 ⟨i, e⟩)) hm)
          clear K2a K2b h2m hf
          go_enter Try.func9, Try.ntmps9
          go_wp2_with (first
            | (go_at_call 38; (with_reducible refine (A1.out _).mono ?_); rintro e w1 ⟨rfl, rfl⟩)
            | (go_at_call 38; (with_reducible refine (A2.out _).mono ?_); rintro e w1 ⟨rfl, rfl⟩)
            | (go_at_call 16; refine (P.out _).mono ?_; rintro e w2 ⟨b, off, k, c, rfl, hk0, hk58, hx, hb2⟩; replace hb2 := Lib.hid hb2; have z0 : ((k : Int) == 0) = false := (by rw [beq_eq_false_iff_ne]; omega); have z1 : (0 : Int) ≤ (k : Int) - 1 := (by omega); have z2 : ((k : Int) - 1).toNat = k - 1 := (by omega); have z3 : (k : Int) - 1 < (k : Int) := (by omega))
            | (go_at_call 19; (with_reducible refine (K1.out _).mono ?_); rintro e w3 ⟨rfl, hb3⟩; have hx := cellB hb3 hx; replace hb2 := Lib.hid (nextB hb2.out hb3))
            | (go_at_call 21; (with_reducible refine (K2.out _).mono ?_); rintro e w4 ⟨rfl, hb4⟩; have hx := cellB hb4 hx; replace hb2 := Lib.hid (nextB hb2.out hb4))
            | (go_at_call 39; (with_reducible refine (IX.out _).mono ?_); rintro e w5 ⟨rfl, rfl⟩)
            | (go_at_call 23; refine (AL.out _).mono ?_; rintro e w6 ⟨rfl, hb6⟩))
          go_ret
          exact Ret.mk rfl (nextB hb2.out hb6)
    · rw [if_neg htl] at K1
      replace K1 := Lib.hid K1
      have htl' : (l : Int) < (t : Int) := by omega
      by_cases h2m : m < 2
      · have h2m' : (m : Int) < 2 := by omega
        have K2 := Lib.hid (K2b h2m')
        clear K2a K2b h2m
        go_enter Try.func9, Try.ntmps9
        go_wp2_with (first
          | (go_at_call 38; (with_reducible refine (A1.out _).mono ?_); rintro e w1 ⟨rfl, rfl⟩)
          | (go_at_call 38; (with_reducible refine (A2.out _).mono ?_); rintro e w1 ⟨rfl, rfl⟩)
          | (go_at_call 16; refine (P.out _).mono ?_; rintro e w2 ⟨b, off, k, c, rfl, hk0, hk58, hx, hb2⟩; replace hb2 := Lib.hid hb2; have z0 : ((k : Int) == 0) = false := (by rw [beq_eq_false_iff_ne]; omega); have z1 : (0 : Int) ≤ (k : Int) - 1 := (by omega); have z2 : ((k : Int) - 1).toNat = k - 1 := (by omega); have z3 : (k : Int) - 1 < (k : Int) := (by omega))
          | (go_at_call 19; (with_reducible refine (K1.out _).mono ?_); rintro e w3 ⟨rfl, hb3⟩; have hx := cellB hb3 hx; replace hb2 := Lib.hid (nextB hb2.out hb3))
          | (go_at_call 21; (with_reducible refine (K2.out _).mono ?_); rintro e w4 ⟨rfl, rfl⟩)
          | (go_at_call 39; (with_reducible refine (AL.out _).mono ?_); rintro e w5 ⟨rfl, rfl⟩)
          | (go_at_call 23; refine (AL.out _).mono ?_; rintro e w6 ⟨rfl, hb6⟩))
        go_ret
        exact Ret.mk rfl (nextB hb2.out hb6)
      · have h2m' : (2 : Int) ≤ (m : Int) := by omega
        by_cases hf : t = m
        · obtain ⟨i, hi⟩ := hfib.out.1 hf
          have K2 := K2a (by omega)
          rw [if_pos hf] at K2
          replace K2 := Lib.hid K2
          have IX := Lib.hid (fun W => index_yes i m W hi hm)
          have hi0 : (0 : Int) ≤ (i : Int) := by omega
          clear K2a K2b h2m hf hi
          go_enter Try.func9, Try.ntmps9
          go_wp2_with (first
            | (go_at_call 38; (with_reducible refine (A1.out _).mono ?_); rintro e w1 ⟨rfl, rfl⟩)
            | (go_at_call 38; (with_reducible refine (A2.out _).mono ?_); rintro e w1 ⟨rfl, rfl⟩)
            | (go_at_call 16; refine (P.out _).mono ?_; rintro e w2 ⟨b, off, k, c, rfl, hk0, hk58, hx, hb2⟩; replace hb2 := Lib.hid hb2; have z0 : ((k : Int) == 0) = false := (by rw [beq_eq_false_iff_ne]; omega); have z1 : (0 : Int) ≤ (k : Int) - 1 := (by omega); have z2 : ((k : Int) - 1).toNat = k - 1 := (by omega); have z3 : (k : Int) - 1 < (k : Int) := (by omega))
            | (go_at_call 19; (with_reducible refine (K1.out _).mono ?_); rintro e w3 ⟨rfl, hb3⟩; have hx := cellB hb3 hx; replace hb2 := Lib.hid (nextB hb2.out hb3))
            | (go_at_call 21; (with_reducible refine (K2.out _).mono ?_); rintro e w4 ⟨rfl, hb4⟩; have hx := cellB hb4 hx; replace hb2 := Lib.hid (nextB hb2.out hb4))
            | (go_at_call 39; (with_reducible refine (IX.out _).mono ?_); rintro e w5 ⟨rfl, rfl⟩)
            | (go_at_call 23; refine (AL.out _).mono ?_; rintro e w6 ⟨rfl, hb6⟩))
          go_ret
          exact Ret.mk rfl (nextB hb2.out hb6)
        · have K2 := K2a (by omega)
          rw [if_neg hf] at K2
          replace K2 := Lib.hid K2
          have IX := Lib.hid (fun W => index_no m W (fun i e => hf (hfib.out.2 ⟨i, e⟩)) hm)
          clear K2a K2b h2m hf
          go_enter Try.func9, Try.ntmps9
          go_wp2_with (first
            | (go_at_call 38; (with_reducible refine (A1.out _).mono ?_); rintro e w1 ⟨rfl, rfl⟩)
            | (go_at_call 38; (with_reducible refine (A2.out _).mono ?_); rintro e w1 ⟨rfl, rfl⟩)
            | (go_at_call 16; refine (P.out _).mono ?_; rintro e w2 ⟨b, off, k, c, rfl, hk0, hk58, hx, hb2⟩; replace hb2 := Lib.hid hb2; have z0 : ((k : Int) == 0) = false := (by rw [beq_eq_false_iff_ne]; omega); have z1 : (0 : Int) ≤ (k : Int) - 1 := (by omega); have z2 : ((k : Int) - 1).toNat = k - 1 := (by omega); have z3 : (k : Int) - 1 < (k : Int) := (by omega))
            | (go_at_call 19; (with_reducible refine (K1.out _).mono ?_); rintro e w3 ⟨rfl, hb3⟩; have hx := cellB hb3 hx; replace hb2 := Lib.hid (nextB hb2.out hb3))
            | (go_at_call 21; (with_reducible refine (K2.out _).mono ?_); rintro e w4 ⟨rfl, hb4⟩; have hx := cellB hb4 hx; replace hb2 := Lib.hid (nextB hb2.out hb4))
            | (go_at_call 39; (with_reducible refine (IX.out _).mono ?_); rintro e w5 ⟨rfl, rfl⟩)
            | (go_at_call 23; refine (AL.out _).mono ?_; rintro e w6 ⟨rfl, hb6⟩))
          go_ret
          exact Ret.mk rfl (nextB hb2.out hb6)
end Go.Proofs.Ytdafpjapepfniaa
