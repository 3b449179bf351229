/- Layer 8: the specification's same, the law's pairs. -/
import Derived.Test.YtniknldeafmgaaaQe
namespace Go.Proofs.Ytniknldeafmgaaa
set_option linter.unusedSimpArgs false
set_option linter.unusedVariables false
open Go Go.RowKit

theorem eqPr (a b c d : Int) (w : World) : (Op.equalIn 10000 31 (.agg #[.int .i64 a, .int .i64 b]) (.agg #[.int .i64 c, .int .i64 d])).run Try.prog w = .ok (a == c && b == d) w := by
  have u3 := Try.underlying3
  have a3 := Try.isAgg3
  have z3 := Try.sizeOf3
  have hS : Try.prog.underlying 31 = some (.struct (Try.prog.fieldsOf 31)) := by kernel_rfl
  rw [show (10000 : Nat) = 9999 + 1 from rfl, run_equalIn_agg w 9999 31 _ _ hS (by kernel_rfl)]
  simp only [Program.fieldsOf, Try.underlying31]
  go_simp
  by_cases h1 : a = c <;> by_cases h2 : b = d <;> simp [h1, h2]
@[go_sem high] theorem run_eqlPr (a b c d : Int) (w : World) : (binOp .eql 31 (.agg #[.int .i64 a, .int .i64 b]) (.agg #[.int .i64 c, .int .i64 d])).run Try.prog w = .ok (.bool (eqP (a, b) (c, d))) w := by
  rw [run_eql_struct, eqPr]; rfl
@[go_sem high] theorem run_neqPr (a b c d : Int) (w : World) : (binOp .neq 31 (.agg #[.int .i64 a, .int .i64 b]) (.agg #[.int .i64 c, .int .i64 d])).run Try.prog w = .ok (.bool (!eqP (a, b) (c, d))) w := by
  rw [run_neq_struct, eqPr]; rfl
theorem ext_pth {xs ys : List (Int × Int)} (h : xs.length = ys.length) (hh : ∀ i, i < xs.length → pth xs i = pth ys i) : xs = ys := by
  apply List.ext_getElem h
  intro i h1 h2
  have := hh i h1
  simpa [pth, h1, h2] using this
/-- The cells of pairs. -/
def cP (L : List (Int × Int)) : List Value := L.flatMap fun q => [.int .i64 q.1, .int .i64 q.2]
set_option maxRecDepth 100000 in
set_option maxHeartbeats 800000 in
theorem pairs_any (a a' : Option Addr) (n n' c c' : Nat) (xs ys : List (Int × Int)) (w : World) (h : Prs w a xs) (h' : Prs w a' ys) (hn : xs.length = n) (hn' : ys.length = n') (hm : n ≤ 4611686018427387904) (hm' : n' ≤ 4611686018427387904) :
    Calls Try.prog 31 #[.slice a n c, .slice a' n' c'] w (Ret (.bool (decide (xs = ys))) w) := by
  by_cases he : n = n'
  · subst he
    by_cases h0 : n = 0
    · subst h0
      have e : Hid (xs = ys) := by rw [List.eq_nil_of_length_eq_zero hn, List.eq_nil_of_length_eq_zero hn']; exact Lib.hid rfl
      rw [decide_eq_true e.out]
      clear hn hn'
      go_enter Try.func31, Try.ntmps31
      go_wp2
      go_loop [5] (fun i => i = .int .i64 0) (fun i => 0)
      case atStart => rfl
      case round =>
        subst hrel
        go_wp2
        go_ret
        exact Ret.mk rfl (Below.refl _ _)
    · obtain ⟨b, off, rfl, hc⟩ := prs_at h (by omega)
      obtain ⟨b', off', rfl, hc'⟩ := prs_at h' (by omega)
      rw [hn] at hc
      rw [hn'] at hc'
      replace hc := Lib.hid hc
      replace hc' := Lib.hid hc'
      replace hn := Lib.hid hn
      replace hn' := Lib.hid hn'
      clear h h'
      go_enter Try.func31, Try.ntmps31
      go_wp2
      go_loopw [5] (fun i wr => ∃ k : Nat, k ≤ n ∧ i = .int .i64 k ∧ (∀ j, j < k → pth xs j = pth ys j) ∧ Below w.heap.size w wr) (fun i _ => n - (intOf i).toNat)
      case atStart => exact ⟨0, by omega, rfl, fun j hj => absurd hj (by omega), Below.refl _ _⟩
      case round =>
        obtain ⟨k, hk, rfl, hok, B0⟩ := hrel
        replace hok := Lib.hid hok
        by_cases hlt : k < n
        · have x0 := cellX (cellB B0 (hc.out k hlt).1)
          have y0 := cellX (cellB B0 (hc'.out k hlt).1)
          have x1 := cellX (cellB B0 (hc.out k hlt).2)
          have y1 := cellX (cellB B0 (hc'.out k hlt).2)
          have hi0 : (0 : Int) ≤ (k : Int) := by omega
          have hi1 : (k : Int) < (n : Int) := by omega
          go_wp2
          refine wp_region_ext (by kernel_rfl) (by kernel_rfl) ?_
          repeat (go_big_quiet_step (fail))
          refine wpQuiet_nil ?_
          rintro ⟨w1, hw1⟩
          dsimp only
          replace B0 := nextB B0 hw1
          clear x0 y0 x1 y1 hw1
          cases g : eqP ((pth xs k).1, (pth xs k).2) ((pth ys k).1, (pth ys k).2)
          · have g' := Lib.hid (show pth xs k ≠ pth ys k from eqP_not.1 g)
            go_wp2
            go_ret
            exact Ret.mk (ret_dec (by simp only [Bool.false_eq_true, false_iff]; intro e; exact g'.out (by rw [e]))) B0
          · have g' := Lib.hid (show pth xs k = pth ys k from eqP_iff.1 g)
            go_wp2
            go_roundw
            case rel => exact ⟨k + 1, by omega, by go_num, fun j hj => (by
              by_cases hjk : j = k
              · subst hjk; exact g'.out
              · exact hok.out j (by omega)), B0⟩
            case measure => simp [intOf]; omega
        · go_wp2
          go_ret
          exact Ret.mk (ret_dec (by simp only [true_iff]; exact ext_pth (hn.out.trans hn'.out.symm) (fun i hi => hok.out i (by rw [hn.out] at hi; omega)))) B0
  · have e : Hid (¬ xs = ys) := Lib.hid (fun e => he (by rw [← hn, ← hn', e]))
    have g : ((n : Int) != (n' : Int)) = true := by rw [bne_iff_ne]; omega
    rw [decide_eq_false e.out]
    clear hn hn' he
    go_enter Try.func31, Try.ntmps31
    go_wp2
    go_ret
    exact Ret.mk rfl (Below.refl _ _)
set_option maxRecDepth 100000 in
set_option maxHeartbeats 800000 in
theorem refsame_any (a a' : Option Addr) (n c c' : Nat) (xs ys : List Int) (w : World) (h : Ints w a xs) (h' : Ints w a' ys) (hn : xs.length = n) (hn' : ys.length = n) (h0 : 0 < n) (hm : n ≤ 4611686018427387904) :
    Calls Try.prog 61 #[.slice a n c, .slice a' n c'] w (Ret (.bool (decide (xs = ys))) w) := by
  obtain ⟨b, off, rfl, hc⟩ := ints_at h (by omega)
  obtain ⟨b', off', rfl, hc'⟩ := ints_at h' (by omega)
  rw [hn] at hc
  rw [hn'] at hc'
  replace hc := Lib.hid hc
  replace hc' := Lib.hid hc'
  replace hn := Lib.hid hn
  replace hn' := Lib.hid hn'
  clear h h'
  go_enter Try.func61, Try.ntmps61
  go_wp2
  go_loopw [5] (fun i wr => ∃ k : Nat, k ≤ n ∧ i = .int .i64 k ∧ (∀ j, j < k → nth xs j = nth ys j) ∧ Below w.heap.size w wr) (fun i _ => n - (intOf i).toNat)
  case atStart => exact ⟨0, by omega, rfl, fun j hj => absurd hj (by omega), Below.refl _ _⟩
  case round =>
    obtain ⟨k, hk, rfl, hok, B0⟩ := hrel
    replace hok := Lib.hid hok
    by_cases hlt : k < n
    · have x0 := cellX (cellB B0 (hc.out k hlt))
      have y0 := cellX (cellB B0 (hc'.out k hlt))
      have hi0 : (0 : Int) ≤ (k : Int) := by omega
      have hi1 : (k : Int) < (n : Int) := by omega
      go_wp2
      refine wp_region_ext (by kernel_rfl) (by kernel_rfl) ?_
      repeat (go_big_quiet_step (fail))
      refine wpQuiet_nil ?_
      rintro ⟨w1, hw1⟩
      dsimp only
      replace B0 := nextB B0 hw1
      clear x0 y0 hw1
      cases g : (nth xs k != nth ys k)
      · have g' := Lib.hid (show nth xs k = nth ys k by simpa using g)
        go_wp2
        go_roundw
        case rel => exact ⟨k + 1, by omega, by go_num, fun j hj => (by
          by_cases hjk : j = k
          · subst hjk; exact g'.out
          · exact hok.out j (by omega)), B0⟩
        case measure => simp [intOf]; omega
      · have g' := Lib.hid (show nth xs k ≠ nth ys k by simpa using g)
        go_wp2
        go_ret
        exact Ret.mk (ret_dec (by simp only [Bool.false_eq_true, false_iff]; intro e; exact g'.out (by rw [e]))) B0
    · have hn1 : (n : Int) ≤ (k : Int) := by omega
      go_wp2
      go_ret
      exact Ret.mk (show Value.bool true = _ by rw [decide_eq_true (ext_nth (hn.out.trans hn'.out.symm) (fun i hi => hok.out i (by rw [hn.out] at hi; omega)))]) B0
end Go.Proofs.Ytniknldeafmgaaa
