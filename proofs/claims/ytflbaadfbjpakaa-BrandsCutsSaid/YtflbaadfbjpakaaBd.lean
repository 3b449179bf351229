/- Layer 2: joined corners, by the program and by the specification. -/
import Derived.Test.YtflbaadfbjpakaaBc
namespace Go.Proofs.Ytflbaadfbjpakaa
open Go Go.RowKit

set_option maxRecDepth 100000 in
set_option maxHeartbeats 800000 in
theorem joined_any (a : Option Addr) (m cp : Nat) (L : List (Int × Int)) (n c d : Int) (w : World) (h : Prs w a L) (hl : L.length = m) (hm : m ≤ 4611686018427387904)
    (h1 : 1 ≤ n) (h2 : 0 ≤ c) (h3 : c ≤ 1000) (h4 : 0 ≤ d) (h5 : d ≤ 1000) :
    Calls Try.prog 74 #[.agg #[.int .i64 n, .slice a m cp], .int .i64 c, .int .i64 d] w (Ret (.bool (decide (NearP n L c d))) w) := by
  have N := fun W => neighbours_any n c d W h1 h2 h3 h4 h5
  have C := fun W hW => contains_any a m cp L (min c d) (max c d) W hW hl hm
  replace C := Lib.hid C
  have h := Lib.hid h
  clear hl
  cases g : decide (Nbr n c d)
  all_goals
    simp only [g] at N
    replace g := Lib.hid g
    go_enter Try.func74, Try.ntmps74
    go_wp2
    have B := b1 w (.cells #[.int .i64 n, .slice a m cp] 66)
    have y0 : (w.alloc (.cells #[.int .i64 n, .slice a m cp] 66)).cell? ⟨w.heap.size, 0, none⟩ = some (.int .i64 n) := by go_simp
    have y1 : (w.alloc (.cells #[.int .i64 n, .slice a m cp] 66)).cell? ⟨w.heap.size, 1, none⟩ = some (.slice a m cp) := by go_simp
    replace y0 := cellX y0
    replace y1 := cellX y1
    have h := Lib.hid (h.out.next B)
    generalize (w.alloc (.cells #[.int .i64 n, .slice a m cp] 66)) = W at *
    refine wp_region_ext (by kernel_rfl) (by kernel_rfl) ?_
    repeat (go_big_quiet_step ((first
      | (go_at_call 87; exact onlyE (N _))
      | (go_at_call 76; exact callE (lineOf_any _ _ _))
      | (go_at_call 88; exact callE (C.out _ (h.out.next (Ext.ok _)))))))
    refine wpQuiet_nil ?_
    rintro ⟨w1, hw1⟩
    dsimp only
    go_wp2
    go_ret
    have g := g.out
    exact Ret.mk (by simp_all [NearP]) (nextB B hw1)

set_option maxRecDepth 100000 in
set_option maxHeartbeats 1600000 in
theorem refNear_any (a : Option Addr) (m cp : Nat) (L : List (Int × Int)) (n c d : Int) (w : World) (h : Prs w a L) (hl : L.length = m) (hm : m ≤ 4611686018427387904)
    (h1 : 1 ≤ n) (h2 : 0 ≤ c) (h3 : c ≤ 1000) (h4 : 0 ≤ d) (h5 : d ≤ 1000) (hcd : c < d ∨ d < c) :
    Calls Try.prog 45 #[.int .i64 n, .slice a m cp, .int .i64 c, .int .i64 d] w (Only (.bool (decide (NearP n L c d))) w) := by
  by_cases g : Nbr n c d
  · have hr : Hid (decide (NearP n L c d) = true) := Lib.hid (decide_eq_true (.inl g))
    unfold Nbr at g
    cases g1 : ((c + 1) % n == d)
    · cases g2 : ((d + 1) % n == c)
      · simp only [beq_eq_false_iff_ne, ne_eq] at g1 g2; omega
      · clear g
        go_enter Try.func45, Try.ntmps45
        go_wp2
        go_ret
        exact Only.mk (by rw [hr.out]; rfl)
    · clear g
      go_enter Try.func45, Try.ntmps45
      go_wp2
      go_ret
      exact Only.mk (by rw [hr.out]; rfl)
  · have g1 : ((c + 1) % n == d) = false := by simpa using fun e => g (.inl e)
    have g2 : ((d + 1) % n == c) = false := by simpa using fun e => g (.inr e)
    have hr : Hid (NearP n L c d ↔ (min c d, max c d) ∈ L) := Lib.hid ⟨fun h => h.resolve_left g, .inr⟩
    clear g
    have mm := Lib.hid (show min c d ≤ max c d by omega)
    by_cases h0 : m = 0
    · subst h0
      have hl := Lib.hid hl
      go_enter Try.func45, Try.ntmps45
      go_wp2
      go_loop [9] (fun i => i = .int .i64 0) (fun i => 0)
      case atStart => rfl
      case round =>
        subst hrel
        go_wp2
        go_ret
        exact Only.mk (ret_dec (by simp only [Bool.false_eq_true, false_iff, hr.out]; rw [List.eq_nil_of_length_eq_zero hl.out]; simp))
    · obtain ⟨b, off, rfl, hc⟩ := prs_at h (by omega)
      rw [hl] at hc
      replace hc := Lib.hid hc
      replace hl := Lib.hid hl
      clear h
      go_enter Try.func45, Try.ntmps45
      go_wp2
      go_loop [9] (fun i => ∃ k : Nat, k ≤ m ∧ i = .int .i64 k ∧ (∀ j, j < k → pth L j ≠ (min c d, max c d))) (fun i => m - (intOf i).toNat)
      case atStart => exact ⟨0, by omega, rfl, fun j hj => absurd hj (by omega)⟩
      case round =>
        obtain ⟨k, hk, rfl, hno⟩ := hrel
        have hno := Lib.hid hno
        by_cases hlt : k < m
        · obtain ⟨e0, e1⟩ := hc.out k hlt
          have hi0 : (0 : Int) ≤ (k : Int) := by omega
          have hi1 : (k : Int) < (m : Int) := by omega
          rcases hcd with hcd | hcd
          · cases k1 : ((pth L k).1 == c)
            · have q := Lib.hid k1
              go_wp2
              all_goals
                go_round
                case rel => exact ⟨k + 1, by omega, by go_num, fun j hj => (by
                  by_cases hjk : j = k
                  · subst hjk; intro e; have := q.out; rw [e] at this; simp at this; omega
                  · exact hno.out j (by omega))⟩
                case measure => simp [intOf]; omega
            · cases k2 : ((pth L k).2 == d)
              · have q := Lib.hid k2
                go_wp2
                all_goals
                  go_round
                  case rel => exact ⟨k + 1, by omega, by go_num, fun j hj => (by
                    by_cases hjk : j = k
                    · subst hjk; intro e; have := q.out; rw [e] at this; simp at this; omega
                    · exact hno.out j (by omega))⟩
                  case measure => simp [intOf]; omega
              · have q1 := Lib.hid k1
                have q2 := Lib.hid k2
                go_wp2
                all_goals
                  go_ret
                  exact Only.mk (ret_dec (by
                    simp only [true_iff, hr.out]
                    have e : pth L k = (min c d, max c d) := Prod.ext (by have := q1.out; simp at this; rw [this]; omega) (by have := q2.out; simp at this; rw [this]; omega)
                    rw [← e]; exact pth_mem (by rw [hl.out]; exact hlt)))
          · cases k1 : ((pth L k).1 == d)
            · have q := Lib.hid k1
              go_wp2
              all_goals
                go_round
                case rel => exact ⟨k + 1, by omega, by go_num, fun j hj => (by
                  by_cases hjk : j = k
                  · subst hjk; intro e; have := q.out; rw [e] at this; simp at this; omega
                  · exact hno.out j (by omega))⟩
                case measure => simp [intOf]; omega
            · cases k2 : ((pth L k).2 == c)
              · have q := Lib.hid k2
                go_wp2
                all_goals
                  go_round
                  case rel => exact ⟨k + 1, by omega, by go_num, fun j hj => (by
                    by_cases hjk : j = k
                    · subst hjk; intro e; have := q.out; rw [e] at this; simp at this; omega
                    · exact hno.out j (by omega))⟩
                  case measure => simp [intOf]; omega
              · have q1 := Lib.hid k1
                have q2 := Lib.hid k2
                go_wp2
                all_goals
                  go_ret
                  exact Only.mk (ret_dec (by
                    simp only [true_iff, hr.out]
                    have e : pth L k = (min c d, max c d) := Prod.ext (by have := q1.out; simp at this; rw [this]; omega) (by have := q2.out; simp at this; rw [this]; omega)
                    rw [← e]; exact pth_mem (by rw [hl.out]; exact hlt)))
        · go_wp2
          go_ret
          exact Only.mk (ret_dec (by
            simp only [Bool.false_eq_true, false_iff, hr.out]
            intro hq
            obtain ⟨i, hi, e⟩ := mem_pth hq
            exact hno.out i (by rw [hl.out] at hi; omega) e))
end Go.Proofs.Ytflbaadfbjpakaa
