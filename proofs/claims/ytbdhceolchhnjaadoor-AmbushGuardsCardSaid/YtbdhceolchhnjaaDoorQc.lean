/- AmbushMore: a spot more for the wolves; whoever is next. -/
import Derived.Test.YtbdhceolchhnjaaDoorQb
namespace Go.Proofs.YtbdhceolchhnjaaDoor
open Go Go.RowKit

theorem ltr_list (b : Bool) : (ltr (sd b)).toList = if b then [119] else [100] := by
  cases b
  · exact strD_list
  · exact strW_list
/-- The dots of a text, counted. -/
def dotN (s : ByteArray) : Nat → Nat
  | 0 => 0
  | k + 1 => dotN s k + (if bytA s k = 46 then 1 else 0)
theorem dotN_le (s : ByteArray) (k : Nat) : dotN s k ≤ k := by
  induction k with
  | zero => exact Nat.le_refl _
  | succ k ih => rw [dotN]; split <;> omega
set_option maxRecDepth 100000 in
set_option maxHeartbeats 2000000 in
theorem free_any (s : ByteArray) (n : Nat) (hn : s.size = n) (h40 : n ≤ 1000) (w : World) : Calls Tryd.prog 34 #[.string s] w (Only (.int .i64 (dotN s n : Nat)) w) := by
  have hle := Lib.hid (dotN_le s)
  have hsz : (s.size : Int) = (n : Int) := by omega
  go_enter Tryd.func34, Tryd.ntmps34
  go_wp2
  go_loop [3, 4] (fun c i => ∃ k : Nat, k ≤ n ∧ i = .int .i64 k ∧ c = .int .i64 (dotN s k : Nat)) (fun _ i => n - (intOf i).toNat)
  case atStart => exact ⟨0, by omega, rfl, rfl⟩
  case round =>
    obtain ⟨k, hk, rfl, rfl⟩ := hrel
    have hlk := hle.out k
    by_cases hlt : k < n
    · have hki : (k : Int) < (n : Int) := by omega
      have hks : k < s.size := by omega
      have hbz : Hid (bytA s k = (s[k]'hks).toNat) := Lib.hid (by unfold bytA; rw [dif_pos hks])
      by_cases c1 : (s[k]'hks).toNat = 46
      · have hst : Hid (dotN s (k + 1) = dotN s k + 1) := Lib.hid (by rw [dotN, if_pos (hbz.out.trans c1)])
        generalize dotN s k = d at *
        go_wp2
        go_round
        case rel => exact ⟨k + 1, by omega, by go_num, by rw [hst.out]; go_num⟩
        case measure => simp [intOf]; omega
      · have hst : Hid (dotN s (k + 1) = dotN s k) := Lib.hid (by rw [dotN, if_neg (by rw [hbz.out]; exact c1)]; rfl)
        have d1 : (((s[k]'hks).toNat : Int) == 46) = false := by rw [beq_eq_false_iff_ne]; omega
        generalize dotN s k = d at *
        clear c1
        go_wp2
        go_round
        case rel => exact ⟨k + 1, by omega, by go_num, by rw [hst.out]⟩
        case measure => simp [intOf]; omega
    · obtain rfl : k = n := by omega
      go_wp2
      go_ret
      exact Only.mk rfl
theorem okS_at {s : ByteArray} (h : okS s = true) {i : Nat} (hi : i < s.size) : bytA s i = 119 ∨ bytA s i = 100 ∨ bytA s i = 46 := by
  unfold okS at h
  rw [List.all_eq_true] at h
  have := h i (List.mem_range.2 hi)
  unfold okB at this
  simp only [Bool.or_eq_true, beq_iff_eq] at this
  omega
theorem okS_of {s : ByteArray} (h : ∀ i, i < s.size → bytA s i = 119 ∨ bytA s i = 100 ∨ bytA s i = 46) : okS s = true := by
  unfold okS
  rw [List.all_eq_true]
  intro i hi
  have := h i (List.mem_range.1 hi)
  unfold okB
  simp only [Bool.or_eq_true, beq_iff_eq]
  omega
/-- A spot is free where the text has a dot. -/
theorem free_dot {s : ByteArray} {m : Nat} (hm : s.size = m) (h : okS s = true) {i : Nat} : i ∈ frL m (psB s 119 m) (psB s 100 m) ↔ i < m ∧ bytA s i = 46 := by
  rw [frL_mem, psB_test, psB_test]
  constructor
  · rintro ⟨h1, h2, h3⟩
    simp only [h1, decide_true, Bool.true_and, decide_eq_false_iff_not] at h2 h3
    have := okS_at h (show i < s.size by omega)
    exact ⟨h1, by omega⟩
  · rintro ⟨h1, h2⟩
    simp [h1, h2]
theorem dotN_pos {s : ByteArray} : ∀ k, dotN s k ≠ 0 → ∃ i, i < k ∧ bytA s i = 46 := by
  intro k
  induction k with
  | zero => intro h; exact absurd rfl h
  | succ k ih =>
    intro h
    rw [dotN] at h
    by_cases e : bytA s k = 46
    · exact ⟨k, by omega, e⟩
    · rw [if_neg e] at h
      obtain ⟨i, hi, hb⟩ := ih (by omega)
      exact ⟨i, by omega, hb⟩
/-- A position with a spot taken is a position. -/
theorem setS_ok {m : Nat} {R : List Int} {s : ByteArray} {k b : Nat} (hF : FieldP m R) (hs : s.size = m) (h : okS s = true) (hk : k < m) (hb : b = 119 ∨ b = 100) :
    pE (m : Int) R (setS s k b) = 0 ∧ okS (setS s k b) = true := by
  have h1 : okS (setS s k b) = true := okS_of fun i hi => by
    rw [setS_size] at hi
    rw [setS_at s k b i (by omega) (by omega)]
    by_cases e : i = k
    · rw [if_pos e]; omega
    · rw [if_neg e]; exact okS_at h hi
  refine ⟨?_, h1⟩
  unfold pE
  rw [if_pos (fE_field hF), if_pos ⟨by rw [setS_size]; omega, h1⟩]
theorem pE_pos {m : Nat} {R : List Int} {s : ByteArray} (hF : FieldP m R) (hs : s.size = m) (h : okS s = true) : pE (m : Int) R s = 0 := by
  unfold pE
  rw [if_pos (fE_field hF), if_pos ⟨by omega, h⟩]
theorem tE_pos {m : Nat} {R : List Int} {s t : ByteArray} (h : pE (m : Int) R s = 0) (ht : isSide t = true) : tE (m : Int) R s t = 0 := by
  unfold tE
  rw [if_pos h, if_pos ht]
theorem winS_pos {m : Nat} {R : List Int} {s t : ByteArray} (h : tE (m : Int) R s t = 0) : winS (m : Int) R s t = ltr (sd (win m R (psB s 119 m) (psB s 100 m) (sideN t == 1))) := by
  unfold winS
  rw [if_pos h]; rfl
theorem isSide_W : isSide strW = true := by unfold isSide; simp
theorem isSide_D : isSide strD = true := by unfold isSide; simp
theorem sideN_W : (sideN strW == 1) = false := by unfold sideN; simp
theorem sideN_D : (sideN strD == 1) = true := by
  unfold sideN
  rw [strW_list, strD_list]; rfl
theorem setS_psB {s : ByteArray} {m k b : Nat} (hs : s.size = m) (hk : k < m) (hb : b < 256) (c : Nat) (i : Nat) : (psB (setS s k b) c m).testBit i = (decide (i < m) && decide ((if i = k then b else bytA s i) = c)) := by
  rw [psB_test, setS_at s k b i hb (by omega)]
theorem better_set {s : ByteArray} {m k : Nat} (hs : s.size = m) (hk : k < m) : Better (psB s 119 m) (psB s 100 m) (psB (setS s k 119) 119 m) (psB (setS s k 119) 100 m) := by
  refine ⟨fun i hi => ?_, fun i hi => ?_⟩
  · rw [setS_psB hs hk (by omega)]
    rw [psB_test] at hi
    simp only [Bool.and_eq_true, decide_eq_true_eq] at hi ⊢
    refine ⟨hi.1, ?_⟩
    by_cases e : i = k
    · rw [if_pos e]
    · rw [if_neg e]; exact hi.2
  · rw [setS_psB hs hk (by omega)] at hi
    rw [psB_test]
    simp only [Bool.and_eq_true, decide_eq_true_eq] at hi ⊢
    refine ⟨hi.1, ?_⟩
    by_cases e : i = k
    · rw [if_pos e] at hi; omega
    · rw [if_neg e] at hi; exact hi.2
end Go.Proofs.YtbdhceolchhnjaaDoor
