/- Layer 3, by the specification: rules, and who wins by them. -/
import Derived.Test.YtnnndooagpkgmaaWd
namespace Go.Proofs.Ytnnndooagpkgmaa
open Go Go.RowKit

theorem refIsRule_out (x : Int) (a : Option Addr) (m c : Nat) (w : World) (h : x < 1 ∨ 5 < x ∨ m = 0) : Calls Try.prog 40 #[.int .i64 x, .slice a m c] w (Only (.bool false) w) := by
  by_cases h1 : x < 1
  · clear h
    go_enter Try.func40, Try.ntmps40
    go_wp2
    go_ret
    exact Only.mk rfl
  · by_cases h5 : 5 < x
    · clear h
      go_enter Try.func40, Try.ntmps40
      go_wp2
      go_ret
      exact Only.mk rfl
    · have hm : m = 0 := by omega
      subst hm
      clear h
      go_enter Try.func40, Try.ntmps40
      go_wp2
      go_ret
      exact Only.mk rfl
theorem refIsRule_any (x : Int) (a : Option Addr) (m c : Nat) (R : List Int) (w : World) (h : Ints w a R) (hl : R.length = m) (hm : m ≤ 1000) :
    Calls Try.prog 40 #[.int .i64 x, .slice a m c] w (Ret (.bool (decide (RuleI x R))) w) := by
  by_cases ho : x < 1 ∨ 5 < x ∨ m = 0
  · rw [decide_eq_false (show ¬ RuleI x R from fun h => by
      obtain ⟨h1, h2, h3, h4, _⟩ := h
      omega)]
    exact (refIsRule_out x a m c w ho).mono fun _ _ k => k.ret
  · obtain ⟨n, rfl⟩ : ∃ n : Nat, x = n := ⟨x.toNat, by omega⟩
    obtain ⟨b, off, rfl, hc⟩ := ints_at h (by omega)
    have e : decide (RuleI (n : Int) R) = decide (RuleP n R) := by
      rw [decide_eq_decide]
      exact ⟨fun h => by simpa using h.2, fun h => ⟨by omega, by simpa using h⟩⟩
    rw [e]
    exact refIsRule_in b off m c n R w (fun i hi => hc i (by omega)) hl (by omega) hm (by omega) (by omega)
theorem ruled_any (a : Option Addr) (m c s : Nat) (R : List Int) (w : World) (h : Ints w a R) (hl : R.length = m) (hm : m ≤ 1000) (hR : Sets R) (hs : s < 65536) :
    Calls Try.prog 57 #[.slice a m c, .int .i64 (s : Nat)] w (Only (.bool (hasOne R s)) w) := by
  have hh : Hid (0 < m → ∃ b off, a = some ⟨b, off, none⟩ ∧ ∀ i, i < m → w.cell? ⟨b, off + i, none⟩ = some (.int .i64 (nth R i))) := Lib.hid (fun h0 => by
    obtain ⟨b, off, e, hc⟩ := ints_at h (by omega)
    exact ⟨b, off, e, fun i hi => hc i (by omega)⟩)
  have hset := Lib.hid (fun i (hi : i < m) => hR _ (nth_mem (show i < R.length by omega)))
  have hiff := Lib.hid (show hasOne R s = true ↔ ∃ i, i < m ∧ inB (nth R i).toNat s = true by rw [hasOne_iff, hl])
  clear h hl hR
  go_enter Try.func57, Try.ntmps57
  go_wp2
  go_loop [5] (fun i => ∃ k : Nat, k ≤ m ∧ i = .int .i64 k ∧ ∀ j, j < k → inB (nth R j).toNat s = false) (fun i => m - (intOf i).toNat)
  case atStart => exact ⟨0, by omega, rfl, fun i hi => absurd hi (by omega)⟩
  case round =>
    obtain ⟨k, hk, rfl, hno⟩ := hrel
    replace hno := Lib.hid hno
    by_cases hlt : k < m
    · obtain ⟨b, off, rfl, hc⟩ := hh.out (by omega)
      have x0 := hc k hlt
      have hki : (k : Int) < (m : Int) := by omega
      obtain ⟨e1, e2⟩ := hset.out k hlt
      have hstep := Lib.hid (fun (h : inB (nth R k).toNat s = false) => (show ∀ t, t < k + 1 → inB (nth R t).toNat s = false from lt_succ_all hno.out h))
      have hyes := Lib.hid (fun (h : inB (nth R k).toNat s = true) => hiff.out.2 ⟨k, hlt, h⟩)
      obtain ⟨z, hz⟩ : ∃ z : Nat, nth R k = z := ⟨(nth R k).toNat, by omega⟩
      rw [hz] at x0 hstep hyes e2
      simp only [Int.toNat_natCast] at hstep hyes
      clear hz hc e1
      have a1 := i64_andNot_nat z s (by omega) (by omega)
      have b1 : (((dif z s : Nat) : Int) == 0) = (dif z s == 0) := beq_nat (dif z s) 0
      have hdz : (dif z s == 0) = inB z s := by rw [Bool.eq_iff_iff, beq_iff_eq]; exact dif_zero
      rw [hdz] at b1
      clear hdz
      cases g : inB z s
      · rw [g] at b1
        have hs := Lib.hid (hstep.out g)
        replace g := Lib.hid g
        go_wp2
        go_round
        case rel => exact ⟨k + 1, by omega, by go_num, hs.out⟩
        case measure => simp [intOf]; omega
      · rw [g] at b1
        have hy := Lib.hid (hyes.out g)
        replace g := Lib.hid g
        go_wp2
        go_ret
        exact Only.mk (show Value.bool true = _ by rw [hy.out])
    · obtain rfl : k = m := by omega
      have hf : Hid (hasOne R s = false) := Lib.hid (by
        cases hh : hasOne R s
        · rfl
        · obtain ⟨t, ht, hin⟩ := hiff.out.1 hh
          rw [hno.out t ht] at hin
          cases hin)
      go_wp2
      go_ret
      exact Only.mk (show Value.bool false = _ by rw [hf.out])
end Go.Proofs.Ytnnndooagpkgmaa
