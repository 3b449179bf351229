/- Layer 8, the specification: Pasture, IsState; the law's good. -/
import Derived.Test.YtniknldeafmgaaaHb
namespace Go.Proofs.Ytniknldeafmgaaa
set_option linter.unusedSimpArgs false
set_option linter.unusedVariables false
open Go Go.RowKit

/-- What is wrong with the sizes. -/
def psE (a b : Int) : Int := if SzP a b then 0 else 2
theorem Pasture_any (a b : Int) (w : World) : Calls Try.prog 42 #[.int .i64 a, .int .i64 b] w (Only (.int .i64 (psE a b)) w) := by
  by_cases h : SzP a b
  · rw [show psE a b = 0 from if_pos h]
    unfold SzP at h
    obtain ⟨h1, h2, h3, h4⟩ := h
    go_enter Try.func42, Try.ntmps42
    go_wp2
    go_ret
    exact Only.mk rfl
  · rw [show psE a b = 2 from if_neg h]
    have h' : a < 1 ∨ 1 ≤ a ∧ 6 < a ∨ 1 ≤ a ∧ a ≤ 6 ∧ b < 1 ∨ 1 ≤ a ∧ a ≤ 6 ∧ 1 ≤ b ∧ 6 < b := by unfold SzP at h; omega
    clear h
    rcases h' with h | ⟨h1, h2⟩ | ⟨h1, h2, h3⟩ | ⟨h1, h2, h3, h4⟩
    all_goals
      go_enter Try.func42, Try.ntmps42
      go_wp2
      go_ret
      exact Only.mk rfl
/-- Row i of these numbers is right, as the specification looks at it. -/
def RowS (b : Int) (xs : List Int) (i : Nat) : Prop := 0 ≤ nth xs i ∧ nth xs i ≤ b ∧ (i = 0 ∨ nth xs i ≤ nth xs (i - 1))
/-- These numbers are a state, as the specification looks at them. -/
def IsSt (a b : Int) (xs : List Int) : Prop := (∀ i, i < xs.length → RowS b xs i) ∧ (xs.length : Int) = a
theorem stP_iff (a b : Int) (xs : List Int) : StP a b xs ↔ SzP a b ∧ IsSt a b xs := by
  constructor
  · rintro ⟨⟨h1, h2⟩, h3⟩
    refine ⟨h1, fun i hi => ?_, h2⟩
    have hb : ∀ i, i < xs.length → nth xs i ≤ b := by
      intro i
      induction i with
      | zero => intro hi; exact (h3 0 hi).2
      | succ i ih =>
        intro hi
        have h5 := (h3 (i + 1) hi).2
        rw [if_neg (by omega), Nat.add_sub_cancel] at h5
        have := ih (by omega)
        omega
    obtain ⟨h4, h5⟩ := h3 i hi
    refine ⟨h4, hb i hi, ?_⟩
    by_cases h0 : i = 0
    · exact .inl h0
    · rw [if_neg h0] at h5; exact .inr h5
  · rintro ⟨h1, h2, h3⟩
    refine ⟨⟨h1, h3⟩, fun i hi => ?_⟩
    obtain ⟨h4, h5, h6⟩ := h2 i hi
    refine ⟨h4, ?_⟩
    by_cases h0 : i = 0
    · rw [if_pos h0]; exact h5
    · rw [if_neg h0]; exact h6.resolve_left h0
set_option maxRecDepth 100000 in
set_option maxHeartbeats 4000000 in
theorem IsState_core (a b : Int) (xs : List Int) (ad : Option Addr) (n c k0 : Nat) (w : World) (V : Bool) (hI : Ints w ad xs) (hl : xs.length = n) (hn : n ≤ 4611686018427387904) (hk0 : k0 ≤ n) (hok : ∀ i, i < k0 → RowS b xs i)
    (hE : (k0 = n ∧ V = decide ((n : Int) = a)) ∨ (k0 < n ∧ ¬ RowS b xs k0 ∧ V = false)) :
    Calls Try.prog 41 #[.int .i64 a, .int .i64 b, .slice ad n c] w (Ret (.bool V) w) := by
  have hc : Hid (∀ i, i < n → ∃ B off, ad = some ⟨B, off, none⟩ ∧ ∀ j, j < n → w.cell? ⟨B, off + j, none⟩ = some (.int .i64 (nth xs j))) := Lib.hid (fun i hi => by
    obtain ⟨B, off, h1, h2⟩ := ints_at hI (by omega)
    exact ⟨B, off, h1, by rw [hl] at h2; exact h2⟩)
  replace hok := Lib.hid hok
  replace hE := Lib.hid hE
  clear hI hl
  go_enter Try.func41, Try.ntmps41
  go_wp2
  go_loopw [7] (fun i wr => ∃ k : Nat, k ≤ k0 ∧ i = .int .i64 k ∧ Below w.heap.size w wr) (fun i _ => n - (intOf i).toNat)
  case atStart => exact ⟨0, by omega, rfl, Below.refl _ _⟩
  case round =>
    obtain ⟨k, hk, rfl, B0⟩ := hrel
    by_cases hkn : k < n
    · have hi1 : (k : Int) < (n : Int) := by omega
      have hi0 : (0 : Int) ≤ (k : Int) := by omega
      obtain ⟨B, off, rfl, hcell⟩ := hc.out k hkn
      have x0 := cellX (cellB B0 (hcell k hkn))
      have hprev : Hid (0 < k → ∀ x : Ext wr, x.world.cell? ⟨B, off + (k - 1), none⟩ = some (.int .i64 (nth xs (k - 1)))) := Lib.hid (fun h => cellX (cellB B0 (hcell (k - 1) (by omega))))
      by_cases hkk : k < k0
      · obtain ⟨g1, g2, g3⟩ := hok.out k hkk
        have d1 : decide (nth xs k < 0) = false := decide_eq_false (by omega)
        have d2 : decide (b < nth xs k) = false := decide_eq_false (by omega)
        generalize nth xs k = x at *
        by_cases hz : 0 < k
        · have d3 : decide ((0 : Int) < (k : Int)) = true := decide_eq_true (by omega)
          have y0 := hprev.out hz
          have z0 : (0 : Int) ≤ (k : Int) - 1 := by omega
          have z1 : ((k : Int) - 1).toNat = k - 1 := by omega
          have z2 : (k : Int) - 1 < (n : Int) := by omega
          have d4 : decide (nth xs (k - 1) < x) = false := decide_eq_false (by rcases g3 with h | h <;> omega)
          generalize nth xs (k - 1) = y at *
          clear g1 g2 g3 hprev
          go_upto_region 4 with (fail)
          refine wp_region_ext (by kernel_rfl) (by kernel_rfl) ?_
          repeat (go_big_quiet_step (fail))
          refine wpQuiet_nil ?_
          rintro ⟨w1, hw1⟩
          dsimp only
          replace B0 := nextB B0 hw1
          clear x0 hw1 y0
          go_wp2
          go_roundw
          case rel => exact ⟨k + 1, by omega, by go_num, B0⟩
          case measure => simp [intOf]; omega
        · have d3 : decide ((0 : Int) < (k : Int)) = false := decide_eq_false (by omega)
          clear g1 g2 g3 hprev
          go_upto_region 4 with (fail)
          refine wp_region_ext (by kernel_rfl) (by kernel_rfl) ?_
          repeat (go_big_quiet_step (fail))
          refine wpQuiet_nil ?_
          rintro ⟨w1, hw1⟩
          dsimp only
          replace B0 := nextB B0 hw1
          clear x0 hw1
          go_wp2
          go_roundw
          case rel => exact ⟨k + 1, by omega, by go_num, B0⟩
          case measure => simp [intOf]; omega
      · have hke : Hid (k = k0) := Lib.hid (by omega)
        have hb : ¬ RowS b xs k := by
          have e := hke.out
          subst e
          rcases hE.out with ⟨h, _⟩ | ⟨_, h, _⟩
          · omega
          · exact h
        have hV : Hid (V = false) := Lib.hid (by
          have e := hke.out
          subst e
          rcases hE.out with ⟨h, _⟩ | ⟨_, _, h⟩
          · omega
          · exact h)
        have hb' : nth xs k < 0 ∨ (0 ≤ nth xs k ∧ b < nth xs k) ∨ (0 ≤ nth xs k ∧ nth xs k ≤ b ∧ 0 < k ∧ nth xs (k - 1) < nth xs k) := by unfold RowS at hb; omega
        clear hb
        rw [hV.out]
        rcases hb' with g1 | ⟨g1, g2⟩ | ⟨g1, g2, g3, g4⟩
        · have d1 : decide (nth xs k < 0) = true := decide_eq_true g1
          generalize nth xs k = x at *
          clear g1 hprev
          go_upto_region 4 with (fail)
          refine wp_region_ext (by kernel_rfl) (by kernel_rfl) ?_
          repeat (go_big_quiet_step (fail))
          refine wpQuiet_nil ?_
          rintro ⟨w1, hw1⟩
          dsimp only
          replace B0 := nextB B0 hw1
          clear x0 hw1
          go_wp2
          go_ret
          exact Ret.mk rfl B0
        · have d1 : decide (nth xs k < 0) = false := decide_eq_false (by omega)
          have d2 : decide (b < nth xs k) = true := decide_eq_true g2
          generalize nth xs k = x at *
          clear g1 g2 hprev
          go_upto_region 4 with (fail)
          refine wp_region_ext (by kernel_rfl) (by kernel_rfl) ?_
          repeat (go_big_quiet_step (fail))
          refine wpQuiet_nil ?_
          rintro ⟨w1, hw1⟩
          dsimp only
          replace B0 := nextB B0 hw1
          clear x0 hw1
          go_wp2
          go_ret
          exact Ret.mk rfl B0
        · have d1 : decide (nth xs k < 0) = false := decide_eq_false (by omega)
          have d2 : decide (b < nth xs k) = false := decide_eq_false (by omega)
          have d3 : decide ((0 : Int) < (k : Int)) = true := decide_eq_true (by omega)
          have y0 := hprev.out g3
          have z0 : (0 : Int) ≤ (k : Int) - 1 := by omega
          have z1 : ((k : Int) - 1).toNat = k - 1 := by omega
          have z2 : (k : Int) - 1 < (n : Int) := by omega
          have d4 : decide (nth xs (k - 1) < nth xs k) = true := decide_eq_true g4
          generalize nth xs (k - 1) = y at *
          generalize nth xs k = x at *
          clear g1 g2 g4 hprev
          go_upto_region 4 with (fail)
          refine wp_region_ext (by kernel_rfl) (by kernel_rfl) ?_
          repeat (go_big_quiet_step (fail))
          refine wpQuiet_nil ?_
          rintro ⟨w1, hw1⟩
          dsimp only
          replace B0 := nextB B0 hw1
          clear x0 hw1 y0
          go_wp2
          go_ret
          exact Ret.mk rfl B0
    · have hV : Hid (V = decide ((n : Int) = a)) := Lib.hid (by
        rcases hE.out with ⟨_, h⟩ | ⟨h, _⟩
        · exact h
        · omega)
      have hi1 : (n : Int) ≤ (k : Int) := by omega
      rw [hV.out]
      go_wp2
      go_ret
      exact Ret.mk (by rw [hV.out]; rfl) B0
theorem IsState_any (a b : Int) (xs : List Int) (ad : Option Addr) (n c : Nat) (w : World) (hI : Ints w ad xs) (hl : xs.length = n) (hn : n ≤ 4611686018427387904) :
    ∃ V : Bool, (V = true ↔ IsSt a b xs) ∧ Calls Try.prog 41 #[.int .i64 a, .int .i64 b, .slice ad n c] w (Ret (.bool V) w) := by
  rcases least_bad (P := RowS b xs) n with h | ⟨k, h1, h2, h3⟩
  · refine ⟨decide ((n : Int) = a), ?_, IsState_core a b xs ad n c n w _ hI hl hn (Nat.le_refl _) h (.inl ⟨rfl, rfl⟩)⟩
    rw [decide_eq_true_eq]
    unfold IsSt
    rw [hl]
    exact ⟨fun e => ⟨h, e⟩, fun e => e.2⟩
  · refine ⟨false, ?_, IsState_core a b xs ad n c k w _ hI hl hn (by omega) h3 (.inr ⟨h1, h2, rfl⟩)⟩
    simp only [Bool.false_eq_true, false_iff]
    rintro ⟨h4, _⟩
    exact h2 (h4 k (by omega))
theorem IsState_yes (a b : Nat) (g : Nat → Nat) (ad : Option Addr) (c : Nat) (w : World) (h : IsS a b g) (hI : Ints w ad (stL a g)) :
    Calls Try.prog 41 #[.int .i64 (a : Int), .int .i64 (b : Int), .slice ad a c] w (Ret (.bool true) w) := by
  have h6 := h.p.a6
  obtain ⟨V, h1, h2⟩ := IsState_any (a : Int) (b : Int) (stL a g) ad a c w hI (stL_len a g) (by omega)
  rwa [h1.2 ((stP_iff _ _ _).1 (StP.of h)).2] at h2
theorem good_yes (a b : Nat) (g : Nat → Nat) (ad : Option Addr) (c : Nat) (w : World) (h : IsS a b g) (hI : Ints w ad (stL a g)) :
    Calls Try.prog 40 #[.int .i64 (a : Int), .int .i64 (b : Int), .slice ad a c] w (Ret (.bool true) w) := by
  have hP : ∀ w, Calls Try.prog 42 #[.int .i64 (a : Int), .int .i64 (b : Int)] w (Only (.int .i64 0) w) := fun w => by have := Pasture_any (a : Int) (b : Int) w; rwa [show psE a b = 0 from if_pos h.p.sz] at this
  have hS := IsState_yes a b g ad c w h hI
  clear h hI
  go_enter Try.func40, Try.ntmps40
  go_wp2_with (first | (go_at_call 42; refine (hP _).mono ?_; rintro _ _ ⟨rfl, rfl⟩) | (go_at_call 41; refine hS.mono ?_; rintro _ w1 ⟨rfl, hw1⟩))
  go_ret
  exact Ret.mk rfl hw1
theorem good_no (a b : Int) (xs : List Int) (ad : Option Addr) (n c : Nat) (w : World) (hI : Ints w ad xs) (hl : xs.length = n) (hn : n ≤ 4611686018427387904) (h : ¬ StP a b xs) :
    Calls Try.prog 40 #[.int .i64 a, .int .i64 b, .slice ad n c] w (Ret (.bool false) w) := by
  rw [stP_iff] at h
  by_cases hs : SzP a b
  · have hP : ∀ w, Calls Try.prog 42 #[.int .i64 a, .int .i64 b] w (Only (.int .i64 0) w) := fun w => by have := Pasture_any a b w; rwa [show psE a b = 0 from if_pos hs] at this
    obtain ⟨V, h1, h2⟩ := IsState_any a b xs ad n c w hI hl hn
    have hV : V = false := by
      cases V
      · rfl
      · exact absurd ⟨hs, h1.1 rfl⟩ h
    subst hV
    clear h hI hl hs h1
    go_enter Try.func40, Try.ntmps40
    go_wp2_with (first | (go_at_call 42; refine (hP _).mono ?_; rintro _ _ ⟨rfl, rfl⟩) | (go_at_call 41; refine h2.mono ?_; rintro _ w1 ⟨rfl, hw1⟩))
    go_ret
    exact Ret.mk rfl hw1
  · have hP : ∀ w, Calls Try.prog 42 #[.int .i64 a, .int .i64 b] w (Only (.int .i64 2) w) := fun w => by have := Pasture_any a b w; rwa [show psE a b = 2 from if_neg hs] at this
    clear h hI hl hs
    go_enter Try.func40, Try.ntmps40
    go_wp2_with (go_at_call 42; refine (hP _).mono ?_; rintro _ _ ⟨rfl, rfl⟩)
    go_ret
    exact Ret.mk rfl (Below.refl _ _)
end Go.Proofs.Ytniknldeafmgaaa
