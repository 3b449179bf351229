/- Layer 2: round lists and ears. -/
import Derived.Test.YtflbaadfbjpakaaBn
namespace Go.Proofs.Ytflbaadfbjpakaa
open Go Go.RowKit

/-- A round list. -/
def RoundP (xs : List Int) : Prop := 3 ≤ xs.length ∧ xs.length ≤ 12 ∧ ∀ i, i < xs.length → 1 ≤ nth xs i ∧ nth xs i ≤ 12
instance (xs) : Decidable (RoundP xs) := by unfold RoundP; infer_instance
/-- A 1 between greater numbers. -/
def EarP (xs : List Int) (c : Nat) : Prop := nth xs c = 1 ∧ 1 < nth xs ((c + xs.length - 1) % xs.length) ∧ 1 < nth xs ((c + 1) % xs.length)
instance (xs c) : Decidable (EarP xs c) := by unfold EarP; infer_instance
theorem mod_ahead (k n : Nat) (h : 0 < n) : (0 : Int) ≤ ((k : Int) + (n : Int) - 1) % (n : Int) ∧ ((k : Int) + (n : Int) - 1) % (n : Int) < (n : Int) ∧ (((k : Int) + (n : Int) - 1) % (n : Int)).toNat = (k + n - 1) % n := by
  have h := mod_at (k + n - 1) n h
  rwa [show ((k + n - 1 : Nat) : Int) = (k : Int) + (n : Int) - 1 by omega] at h
set_option maxRecDepth 100000 in
set_option maxHeartbeats 800000 in
theorem isRound_any (a : Option Addr) (n c : Nat) (xs : List Int) (w : World) (h : Ints w a xs) (hn : xs.length = n) (hm : n ≤ 4611686018427387904) :
    Calls Try.prog 54 #[.slice a n c] w (Only (.bool (decide (RoundP xs))) w) := by
  by_cases hh : 3 ≤ n ∧ n ≤ 12
  · obtain ⟨b, off, rfl, hc⟩ := ints_at h (by omega)
    obtain ⟨h3, h12⟩ := hh
    rw [hn] at hc
    have hr : Hid (RoundP xs ↔ ∀ i, i < n → 1 ≤ nth xs i ∧ nth xs i ≤ 12) := ⟨fun h i hi => h.2.2 i (by omega), fun h => ⟨by omega, by omega, fun i hi => h i (by omega)⟩⟩
    replace hc := Lib.hid hc
    clear h hn
    go_enter Try.func54, Try.ntmps54
    go_wp2
    go_loop [4, 15] (fun v i => ∃ k : Nat, k ≤ n ∧ i = .int .i64 k ∧ (∀ j, j < k → 1 ≤ nth xs j ∧ nth xs j ≤ 12)) (fun _ i => n - (intOf i).toNat)
    case atStart => exact ⟨0, by omega, rfl, fun j hj => absurd hj (by omega)⟩
    case round =>
      obtain ⟨k, hk, rfl, hok⟩ := hrel
      replace hok := Lib.hid hok
      by_cases hlt : k < n
      · have x0 := hc.out k hlt
        have hi0 : (0 : Int) ≤ (k : Int) := by omega
        have hi1 : (k : Int) < (n : Int) := by omega
        by_cases g1 : nth xs k < 1
        · go_wp2
          go_ret
          exact Only.mk (ret_dec (by simp only [Bool.false_eq_true, false_iff, hr.out]; intro h; have := h k hlt; omega))
        · by_cases g2 : 12 < nth xs k
          · go_wp2
            go_ret
            exact Only.mk (ret_dec (by simp only [Bool.false_eq_true, false_iff, hr.out]; intro h; have := h k hlt; omega))
          · go_wp2
            go_round
            case rel => exact ⟨k + 1, by omega, by go_num, fun j hj => (by
              by_cases hjk : j = k
              · subst hjk; omega
              · exact hok.out j (by omega))⟩
            case measure => simp [intOf]; omega
      · go_wp2
        go_ret
        exact Only.mk (ret_dec (by simp only [true_iff, hr.out]; exact fun i hi => hok.out i (by omega)))
  · rw [decide_eq_false (show ¬ RoundP xs from fun h => hh ⟨by have := h.1; omega, by have := h.2.1; omega⟩)]
    clear h hn
    by_cases h3 : n < 3
    · clear hh
      go_enter Try.func54, Try.ntmps54
      go_wp2
      go_ret
      exact Only.mk rfl
    · have h12 : 12 < n := by omega
      clear hh
      go_enter Try.func54, Try.ntmps54
      go_wp2
      go_ret
      exact Only.mk rfl
set_option maxRecDepth 100000 in
set_option maxHeartbeats 800000 in
theorem isEar_any (b off n c cp : Nat) (xs : List Int) (w : World) (hn : xs.length = n) (h1 : 1 ≤ n) (h12 : n ≤ 12) (hc : c < n) (h : ∀ i, i < n → w.cell? ⟨b, off + i, none⟩ = some (.int .i64 (nth xs i))) :
    Calls Try.prog 64 #[.slice (some ⟨b, off, none⟩) n cp, .int .i64 c] w (Only (.bool (decide (EarP xs c))) w) := by
  have x0 := h c hc
  have x1 := h ((c + n - 1) % n) (Nat.mod_lt _ (by omega))
  have x2 := h ((c + 1) % n) (Nat.mod_lt _ (by omega))
  obtain ⟨m0, m1, m2⟩ := mod_ahead c n (by omega)
  obtain ⟨m3, m4, m5⟩ := mod_at1 c n (by omega)
  have hE : Hid (EarP xs c ↔ nth xs c = 1 ∧ 1 < nth xs ((c + n - 1) % n) ∧ 1 < nth xs ((c + 1) % n)) := by rw [← hn]; exact Lib.hid Iff.rfl
  clear h hn
  have hc0 : (c : Int) < (n : Int) := by omega
  have A := fun W => ahead_any n c W (by omega) (by omega) (by omega) (by omega)
  have B := fun W => after_any n c W (by omega) (by omega) (by omega)
  cases g1 : (nth xs c == 1)
  · have G1 := Lib.hid g1
    go_enter Try.func64, Try.ntmps64
    go_wp2
    go_ret
    exact Only.mk (ret_dec (by simp only [Bool.false_eq_true, false_iff, hE.out]; intro h; have := G1.out; rw [h.1] at this; simp at this))
  · have G1 := Lib.hid (show nth xs c = 1 by simpa using g1)
    by_cases g2 : 1 < nth xs ((c + n - 1) % n)
    · by_cases g3 : 1 < nth xs ((c + 1) % n)
      all_goals
        go_enter Try.func64, Try.ntmps64
        go_wp2_with (first
          | (go_at_call 77; refine (A _).mono ?_; rintro e w1 ⟨rfl, rfl⟩)
          | (go_at_call 61; refine (B _).mono ?_; rintro e w1 ⟨rfl, rfl⟩))
        go_ret
        exact Only.mk (ret_dec (by simp only [decide_eq_true_eq, true_iff, hE.out]; have := G1.out; omega))
    · go_enter Try.func64, Try.ntmps64
      go_wp2_with (go_at_call 77; refine (A _).mono ?_; rintro e w1 ⟨rfl, rfl⟩)
      go_ret
      exact Only.mk (ret_dec (by simp only [Bool.false_eq_true, false_iff, hE.out]; omega))
/-- The first ear, or none. -/
def FoundEar (xs : List Int) (r : Int) : Prop := (∃ c : Nat, r = c ∧ c < xs.length ∧ EarP xs c ∧ ∀ j, j < c → ¬ EarP xs j) ∨ (r = -1 ∧ ∀ j, j < xs.length → ¬ EarP xs j)
set_option maxRecDepth 100000 in
set_option maxHeartbeats 800000 in
theorem findEar_any (b off n cp : Nat) (xs : List Int) (w : World) (hn : xs.length = n) (h1 : 1 ≤ n) (h12 : n ≤ 12) (h : ∀ i, i < n → w.cell? ⟨b, off + i, none⟩ = some (.int .i64 (nth xs i))) :
    Calls Try.prog 75 #[.slice (some ⟨b, off, none⟩) n cp] w fun e w' => ∃ r, e = .returned (.int .i64 r) ∧ FoundEar xs r ∧ w = w' := by
  have E := fun c (hc : c < n) => isEar_any b off n c cp xs w hn h1 h12 hc h
  replace E := Lib.hid E
  replace hn := Lib.hid hn
  clear h
  go_enter Try.func75, Try.ntmps75
  go_wp2
  go_loop [3, 6] (fun v i => ∃ k : Nat, k ≤ n ∧ i = .int .i64 k ∧ (∀ j, j < k → ¬ EarP xs j)) (fun _ i => n - (intOf i).toNat)
  case atStart => exact ⟨0, by omega, rfl, fun j hj => absurd hj (by omega)⟩
  case round =>
    obtain ⟨k, hk, rfl, hok⟩ := hrel
    replace hok := Lib.hid hok
    by_cases hlt : k < n
    · have hi0 : (0 : Int) ≤ (k : Int) := by omega
      have hi1 : (k : Int) < (n : Int) := by omega
      have K := E.out k hlt
      cases g : decide (EarP xs k)
      · rw [g] at K
        have g' := Lib.hid (of_decide_eq_false g)
        clear g
        go_wp2_with (go_at_call 64; refine K.mono ?_; rintro e w1 ⟨rfl, rfl⟩)
        go_round
        case rel => exact ⟨k + 1, by omega, by go_num, fun j hj => (by
          by_cases hjk : j = k
          · subst hjk; exact g'.out
          · exact hok.out j (by omega))⟩
        case measure => simp [intOf]; omega
      · rw [g] at K
        have g' := Lib.hid (of_decide_eq_true g)
        clear g
        go_wp2_with (go_at_call 64; refine K.mono ?_; rintro e w1 ⟨rfl, rfl⟩)
        go_ret
        exact ⟨_, rfl, .inl ⟨k, rfl, by rw [hn.out]; exact hlt, g'.out, hok.out⟩, rfl⟩
    · go_wp2
      go_ret
      exact ⟨_, rfl, .inr ⟨rfl, fun j hj => hok.out j (by rw [hn.out] at hj; omega)⟩, rfl⟩
set_option maxRecDepth 100000 in
set_option maxHeartbeats 800000 in
theorem refIsRound_any (a : Option Addr) (n c : Nat) (xs : List Int) (w : World) (h : Ints w a xs) (hn : xs.length = n) (hm : n ≤ 4611686018427387904) :
    Calls Try.prog 44 #[.slice a n c] w (Only (.bool (decide (RoundP xs))) w) := by
  by_cases h0 : n = 0
  · subst h0
    rw [decide_eq_false (show ¬ RoundP xs from fun h => by have := h.1; omega)]
    clear h hn
    go_enter Try.func44, Try.ntmps44
    go_wp2
    go_loop [3] (fun i => i = .int .i64 0) (fun i => 0)
    case atStart => rfl
    case round =>
      subst hrel
      go_wp2
      go_ret
      exact Only.mk rfl
  · obtain ⟨b, off, rfl, hc⟩ := ints_at h (by omega)
    rw [hn] at hc
    have hr : Hid (RoundP xs ↔ (3 ≤ n ∧ n ≤ 12) ∧ ∀ i, i < n → 1 ≤ nth xs i ∧ nth xs i ≤ 12) := ⟨fun h => ⟨⟨by have := h.1; omega, by have := h.2.1; omega⟩, fun i hi => h.2.2 i (by omega)⟩, fun h => ⟨by omega, by omega, fun i hi => h.2 i (by omega)⟩⟩
    replace hc := Lib.hid hc
    clear h hn
    go_enter Try.func44, Try.ntmps44
    go_wp2
    go_loop [3] (fun i => ∃ k : Nat, k ≤ n ∧ i = .int .i64 k ∧ (∀ j, j < k → 1 ≤ nth xs j ∧ nth xs j ≤ 12)) (fun i => n - (intOf i).toNat)
    case atStart => exact ⟨0, by omega, rfl, fun j hj => absurd hj (by omega)⟩
    case round =>
      obtain ⟨k, hk, rfl, hok⟩ := hrel
      replace hok := Lib.hid hok
      by_cases hlt : k < n
      · have x0 := hc.out k hlt
        have hi0 : (0 : Int) ≤ (k : Int) := by omega
        have hi1 : (k : Int) < (n : Int) := by omega
        by_cases g1 : nth xs k < 1
        · go_wp2
          go_ret
          exact Only.mk (ret_dec (by simp only [Bool.false_eq_true, false_iff, hr.out]; intro h; have := h.2 k hlt; omega))
        · by_cases g2 : 12 < nth xs k
          · go_wp2
            go_ret
            exact Only.mk (ret_dec (by simp only [Bool.false_eq_true, false_iff, hr.out]; intro h; have := h.2 k hlt; omega))
          · go_wp2
            go_round
            case rel => exact ⟨k + 1, by omega, by go_num, fun j hj => (by
              by_cases hjk : j = k
              · subst hjk; omega
              · exact hok.out j (by omega))⟩
            case measure => simp [intOf]; omega
      · go_wp2
        all_goals go_ret
        all_goals exact Only.mk (ret_dec (by simp only [decide_eq_true_eq, Bool.false_eq_true, false_iff, hr.out]; first | omega | exact ⟨fun h => ⟨by omega, fun i hi => hok.out i (by omega)⟩, fun h => by omega⟩ | exact ⟨by omega, fun i hi => hok.out i (by omega)⟩))
end Go.Proofs.Ytflbaadfbjpakaa
