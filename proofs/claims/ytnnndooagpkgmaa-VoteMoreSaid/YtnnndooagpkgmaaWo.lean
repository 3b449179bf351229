/- Layer 3, by the specification: factorial, size, Ratio. -/
import Derived.Test.YtnnndooagpkgmaaWl
import Derived.Lib.MinMax
namespace Go.Proofs.Ytnnndooagpkgmaa
open Go Go.RowKit

theorem refFactorial_any (n : Nat) (w : World) (h : n ≤ 8) : Calls Try.prog 51 #[.int .i64 (n : Nat)] w (Only (.int .i64 ((fac n : Nat) : Int)) w) := by
  go_enter Try.func51, Try.ntmps51
  go_wp2
  go_loop [3, 4] (fun p f => ∃ k : Nat, 2 ≤ k ∧ (k ≤ n + 1 ∨ k = 2) ∧ f = .int .i64 k ∧ p = .int .i64 ((fac (k - 1) : Nat) : Int)) (fun _ f => n + 1 - (intOf f).toNat)
  case atStart => exact ⟨2, by omega, .inr rfl, rfl, rfl⟩
  case round =>
    obtain ⟨k, hk, hk2, rfl, rfl⟩ := hrel
    by_cases hlt : k ≤ n
    · obtain ⟨j, rfl⟩ : ∃ j, k = j + 1 := ⟨k - 1, by omega⟩
      have hf : Hid (fac (j + 1) = fac j * (j + 1)) := Lib.hid rfl
      have hb := fac_le (k := j) (by omega)
      have hb2 := Lib.hid (fac_le (k := j + 1) (by omega))
      simp only [Nat.add_sub_cancel]
      generalize fac j = p at *
      have hm2 : (p : Int) * ((j : Int) + 1) = ((fac (j + 1) : Nat) : Int) := by rw [hf.out, Int.natCast_mul]; rfl
      have hm : wrap64 ((p : Int) * ((j : Int) + 1)) = ((fac (j + 1) : Nat) : Int) := by
        rw [hm2]
        exact IntWalk.wrap64_in _ ⟨by omega, by have := hb2.out; omega⟩
      have hq := Lib.hid (show fac (j + 1 + 1 - 1) = fac (j + 1) from rfl)
      generalize fac (j + 1) = q at *
      have hle : ((j + 1 : Nat) : Int) ≤ (n : Int) := by omega
      have h0 : (0 : Int) ≤ (p : Int) := by omega
      replace hb2 := hb2.out
      go_wp2
      go_round
      case rel => exact ⟨j + 1 + 1, by omega, .inl (by omega), by go_num, by rw [hq.out]⟩
      case measure => simp [intOf]; omega
    · have hle : ¬ ((k : Int) ≤ (n : Int)) := by omega
      have hq : fac (k - 1) = fac n := by
        rcases hk2 with h2 | h2
        · rw [show k - 1 = n by omega]
        · subst h2
          have : n = 0 ∨ n = 1 := by omega
          rcases this with rfl | rfl <;> rfl
      have hq := Lib.hid hq
      go_wp2
      go_ret
      first | exact Only.mk rfl | exact Only.mk (show Value.int .i64 ((fac (k - 1) : Nat) : Int) = _ by rw [hq.out])

/-- How many are in a set. -/
def siz (s n : Nat) : Nat := cnt s.testBit n
theorem cnt_past {p : Nat → Bool} {m k : Nat} (h : ∀ i, m ≤ i → p i = false) (hk : m ≤ k) : cnt p k = cnt p m := by
  obtain ⟨d, rfl⟩ : ∃ d, k = m + d := ⟨k - m, by omega⟩
  clear hk
  induction d with
  | zero => rfl
  | succ d ih => rw [← Nat.add_assoc, cnt, ih, h _ (by omega)]; rfl
theorem siz_end {s n k : Nat} (hs : s < pw n) (hk : s < pw k) : siz s k = siz s n := by
  have h : ∀ {m : Nat}, s < pw m → ∀ i, m ≤ i → s.testBit i = false := fun hm i hi => Nat.testBit_lt_two_pow (Nat.lt_of_lt_of_le hm (pw_mono hi))
  unfold siz
  rcases Nat.le_total k n with hl | hl
  · exact (cnt_past (h hk) hl).symm
  · exact cnt_past (h hs) hl
theorem bt_cnt (s k : Nat) : siz s (k + 1) = siz s k + s / pw k % 2 := by
  show cnt s.testBit k + (if s.testBit k then 1 else 0) = _
  have h := bt_test s k
  unfold bt at h
  show _ = cnt s.testBit k + s / pw k % 2
  have h2 : s / pw k % 2 = if s.testBit k then 1 else 0 := h
  rw [h2]
theorem refSize_any (n s : Nat) (w : World) (hn : n ≤ 8) (hs : s < pw n) : Calls Try.prog 52 #[.int .i64 (s : Nat)] w (Only (.int .i64 ((siz s n : Nat) : Int)) w) := by
  have hend := Lib.hid (fun k (hk : s / pw k = 0) => siz_end hs (show s < pw k by
    have := Nat.div_add_mod s (pw k)
    have h2 := Nat.mod_lt s (pw_pos k)
    rw [hk, Nat.mul_zero] at this
    omega))
  have hz : Hid (∀ k, n ≤ k → s / pw k = 0) := Lib.hid (fun k hk => Nat.div_eq_of_lt (Nat.lt_of_lt_of_le hs (pw_mono hk)))
  have hst := Lib.hid (bt_cnt s)
  have hdv : Hid (∀ k, s / pw (k + 1) = s / pw k / 2) := Lib.hid (fun k => by rw [pw_succ, Nat.div_div_eq_div_mul, Nat.mul_comm])
  have hle := Lib.hid (fun k => cnt_le s.testBit k)
  have h0 : Hid (s = s / pw 0 ∧ siz s 0 = 0) := Lib.hid ⟨by simp [pw], rfl⟩
  have hsz := Lib.hid (fun k => (show siz s k ≤ k from hle.out k))
  have hp8 : pw n ≤ 256 := by have := pw_mono hn; simpa [pw] using this
  have hb : Hid (∀ k, s / pw k ≤ 256) := Lib.hid (fun k => Nat.le_trans (Nat.div_le_self _ _) (by omega))
  generalize siz s = g at *
  clear hle
  go_enter Try.func52, Try.ntmps52
  go_wp2
  go_loop [0, 3] (fun x y => ∃ k : Nat, k ≤ n ∧ x = .int .i64 ((s / pw k : Nat) : Int) ∧ y = .int .i64 ((g k : Nat) : Int)) (fun x _ => (intOf x).toNat)
  case atStart => exact ⟨0, by omega, by rw [← h0.out.1], by rw [h0.out.2]; rfl⟩
  case round =>
    obtain ⟨k, hk, rfl, rfl⟩ := hrel
    have e1 := hst.out k
    have e2 := hdv.out k
    have e3 := hb.out k
    have e4 := hsz.out k
    by_cases hx : s / pw k = 0
    · have hd := Lib.hid (hend.out k hx)
      rw [hx] at e1 e2 e3 ⊢
      clear e1 e2
      go_wp2
      go_ret
      exact Only.mk (show Value.int .i64 ((g k : Nat) : Int) = _ by rw [hd.out])
    · have hkn : k < n := by
        by_cases hh : k < n
        · exact hh
        · exact absurd (hz.out k (by omega)) hx
      replace e1 := Lib.hid e1
      replace e2 := Lib.hid e2
      generalize s / pw k = x at *
      have m1 : (x : Int).tmod 2 = ((x % 2 : Nat) : Int) := by rw [Int.natCast_emod]; exact Int.tmod_eq_emod_of_nonneg (by omega)
      have m2 : (x : Int).tdiv 2 = ((x / 2 : Nat) : Int) := (Int.ofNat_tdiv _ _).symm
      have m3 : (x : Int) % 2 = ((x % 2 : Nat) : Int) := (Int.natCast_emod _ _).symm
      have m4 : (x : Int) / 2 = ((x / 2 : Nat) : Int) := (Int.natCast_ediv _ _).symm
      have hxi : decide (0 < (x : Int)) = true := decide_eq_true (by omega)
      have hxz : 0 < x := by omega
      have hlt : x / 2 < x := by omega
      have hm2 : x % 2 < 2 := Nat.mod_lt _ (by omega)
      have ha : IntKind.i64.wrap (((g k : Nat) : Int) + ((x % 2 : Nat) : Int)) = ((g k + x % 2 : Nat) : Int) := by rw [IntWalk.i64_in _ (by omega)]; omega
      have hq : IntKind.i64.wrap ((x / 2 : Nat) : Int) = ((x / 2 : Nat) : Int) := IntWalk.i64_in _ (by omega)
      generalize x % 2 = r at *
      generalize x / 2 = t at *
      go_wp2
      go_round
      case rel => exact ⟨k + 1, by omega, by rw [e2.out], by rw [e1.out]; go_num⟩
      case measure => simp [intOf]; omega
end Go.Proofs.Ytnnndooagpkgmaa
