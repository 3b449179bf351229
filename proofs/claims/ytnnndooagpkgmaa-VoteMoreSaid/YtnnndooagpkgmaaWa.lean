/- Layer 3, the laws' own words: are two lists the same; a drove of three. -/
import Derived.Test.YtnnndooagpkgmaaVz
namespace Go.Proofs.Ytnnndooagpkgmaa
open Go Go.RowKit

theorem same_any (a b : Option Addr) (n m c d : Nat) (xs ys : List Int) (w : World) (h : Ints w a xs) (h' : Ints w b ys) (hl : xs.length = n) (hl' : ys.length = m) (hn : n ≤ 1000000) (hm : m ≤ 1000000) :
    Calls Try.prog 21 #[.slice a n c, .slice b m d] w (Ret (.bool (decide (xs = ys))) w) := by
  by_cases hnm : n = m
  · subst hnm
    have hne : ((n : Int) != (n : Int)) = false := by simp
    by_cases h0 : n = 0
    · subst h0
      have e1 := List.eq_nil_of_length_eq_zero hl
      have e2 := List.eq_nil_of_length_eq_zero hl'
      subst e1
      subst e2
      rw [decide_eq_true rfl]
      clear hl hl' hne h h'
      go_enter Try.func21, Try.ntmps21
      go_wp2
      go_loop [5] (fun i => i = .int .i64 0) (fun _ => 0)
      case atStart => rfl
      case round =>
        subst hrel
        go_wp2
        go_ret
        exact Ret.mk rfl (Below.refl _ _)
    · obtain ⟨b1', o1, rfl, hc⟩ := ints_at h (by omega)
      obtain ⟨b2', o2, rfl, hc'⟩ := ints_at h' (by omega)
      rw [hl] at hc
      rw [hl'] at hc'
      replace hc := Lib.hid hc
      replace hc' := Lib.hid hc'
      have hL := Lib.hid (hl.trans hl'.symm)
      replace hl := Lib.hid hl
      clear h h' hl'
      go_enter Try.func21, Try.ntmps21
      go_wp2
      go_loopw [5] (fun i wr => ∃ k : Nat, k ≤ n ∧ i = .int .i64 k ∧ (∀ j, j < k → nth xs j = nth ys j) ∧ Below w.heap.size w wr) (fun i _ => n - (intOf i).toNat)
      case atStart => exact ⟨0, by omega, rfl, fun j hj => absurd hj (by omega), Below.refl _ _⟩
      case round =>
        obtain ⟨k, hk, rfl, hs, B0⟩ := hrel
        replace hs := Lib.hid hs
        by_cases hlt : k < n
        · have hki : (k : Int) < (n : Int) := by omega
          have x0 := cellX (cellB B0 (hc.out k hlt))
          have x1 := cellX (cellB B0 (hc'.out k hlt))
          obtain ⟨x, hx⟩ : ∃ x, Hid (nth xs k = x) := ⟨_, Lib.hid rfl⟩
          obtain ⟨y, hy⟩ : ∃ y, Hid (nth ys k = y) := ⟨_, Lib.hid rfl⟩
          rw [hx.out] at x0
          rw [hy.out] at x1
          cases g : (x != y)
          all_goals
            have g' := Lib.hid g
            go_wp2
            refine wp_region_ext (by kernel_rfl) (by kernel_rfl) ?_
            repeat (go_big_quiet_step (fail))
            refine wpQuiet_nil ?_
            rintro ⟨w1, hw1⟩
            dsimp only
            go_wp2
            first
              | (go_ret
                 exact Ret.mk (show Value.bool false = _ by
                   rw [decide_eq_false (fun h => by
                     have h2 := g'.out
                     rw [bne_iff_ne] at h2
                     subst h
                     exact h2 (hx.out.symm.trans hy.out))]) (nextB B0 hw1))
              | (go_roundw
                 case rel => exact ⟨k + 1, by omega, by go_num, fun j hj => (by
                   by_cases e : j = k
                   · subst e
                     have h2 := g'.out
                     rw [bne_eq_false_iff_eq] at h2
                     rw [hx.out, hy.out, h2]
                   · exact hs.out j (by omega)), nextB B0 hw1⟩
                 case measure => simp [intOf]; omega)
        · obtain rfl : k = n := by omega
          go_wp2
          go_ret
          exact Ret.mk (show Value.bool true = _ by rw [decide_eq_true (ext_nth hL.out (fun i hi => hs.out i (by rw [hl.out] at hi; exact hi)))]) B0
  · have hne : ((n : Int) != (m : Int)) = true := by rw [bne_iff_ne]; omega
    have hf : decide (xs = ys) = false := decide_eq_false (fun e => hnm (by rw [← hl, ← hl', e]))
    rw [hf]
    clear hf hl hl' hnm
    go_enter Try.func21, Try.ntmps21
    go_wp2
    go_ret
    exact Ret.mk rfl (Below.refl _ _)
/-- The body of three drovers. -/
def ThreeR (w : World) (e : Ending) (w' : World) : Prop := ∃ a, e = .returned (bodyV 3 a 3 3) ∧ Ints w' a [2, 1, 1] ∧ Below w.heap.size w w'
theorem lit_ints {w : World} {B : Nat} {t : TypeId} {xs : List Int} (h : Blk w B t (xs.map (Value.int .i64)).toArray) : Ints w (some ⟨B, 0, none⟩) xs :=
  .inr ⟨B, 0, rfl, fun i hi => by rw [Nat.zero_add]; exact h.c i (by simp [nth, hi])⟩
theorem three_any (w : World) : Calls Try.prog 42 #[] w (ThreeR w) := by
  go_enter Try.func42, Try.ntmps42
  go_wp2
  refine bodyPost_ret (v := bodyV 3 (some ⟨w.heap.size + 1, 0, none⟩) 3 3) (by simp [results, Try.results42, go_sem]) rfl ?_
  exact ⟨_, rfl, lit_ints (xs := [2, 1, 1]) (t := 3) (two_box w _ _ _ _), b2 _ _ _⟩
/-- The comparison of ratios, and of four numbers. -/
theorem eqRat (a b c d : Int) (w : World) : (Op.equalIn 10000 38 (.agg #[.int .i64 a, .int .i64 b]) (.agg #[.int .i64 c, .int .i64 d])).run Try.prog w = .ok (a == c && b == d) w := by
  have u3 := Try.underlying3
  have a3 := Try.isAgg3
  have z3 := Try.sizeOf3
  have hS : Try.prog.underlying 38 = some (.struct (Try.prog.fieldsOf 38)) := by kernel_rfl
  rw [show (10000 : Nat) = 9999 + 1 from rfl, run_equalIn_agg w 9999 38 _ _ hS (by kernel_rfl)]
  simp only [Program.fieldsOf, Try.underlying38]
  go_simp
  by_cases h1 : a = c <;> by_cases h2 : b = d <;> simp [h1, h2]
@[go_sem high] theorem run_eqlRat (a b c d : Int) (w : World) : (binOp .eql 38 (.agg #[.int .i64 a, .int .i64 b]) (.agg #[.int .i64 c, .int .i64 d])).run Try.prog w = .ok (.bool (eqP (a, b) (c, d))) w := by
  rw [run_eql_struct, eqRat]; rfl
@[go_sem high] theorem run_neqRat (a b c d : Int) (w : World) : (binOp .neq 38 (.agg #[.int .i64 a, .int .i64 b]) (.agg #[.int .i64 c, .int .i64 d])).run Try.prog w = .ok (.bool (!eqP (a, b) (c, d))) w := by
  rw [run_neq_struct, eqRat]; rfl
theorem eqF4 (a b c d e f g h : Int) (w : World) : (Op.equalIn 10000 49 (.agg #[.int .i64 a, .int .i64 b, .int .i64 c, .int .i64 d]) (.agg #[.int .i64 e, .int .i64 f, .int .i64 g, .int .i64 h])).run Try.prog w = .ok (a == e && b == f && c == g && d == h) w := by
  have u3 := Try.underlying3
  have a3 := Try.isAgg3
  have z3 := Try.sizeOf3
  rw [show (10000 : Nat) = 9999 + 1 from rfl, Op.equalIn]
  simp only [Sem.run_bind, run_underlying Try.underlying49, Result.andThen_ok]
  simp only [Std.Legacy.Range.forIn_eq_forIn_range', Std.Legacy.Range.size, Nat.sub_zero, Nat.add_sub_cancel, Nat.div_one, List.range'_succ, List.range'_zero, List.forIn_cons, List.forIn_nil]
  go_simp
  by_cases h1 : a = e <;> by_cases h2 : b = f <;> by_cases h3 : c = g <;> by_cases h4 : d = h <;> simp [h1, h2, h3, h4]
def eqQ (a b c d e f g h : Int) : Bool := a == e && b == f && c == g && d == h
@[go_sem high] theorem run_eqlF4 (a b c d e f g h : Int) (w : World) : (binOp .eql 49 (quadV a b c d) (quadV e f g h)).run Try.prog w = .ok (.bool (eqQ a b c d e f g h)) w := by
  rw [run_eql_struct, eqF4]; rfl
@[go_sem high] theorem run_neqF4 (a b c d e f g h : Int) (w : World) : (binOp .neq 49 (quadV a b c d) (quadV e f g h)).run Try.prog w = .ok (.bool (!eqQ a b c d e f g h)) w := by
  rw [run_neq_struct, eqF4]; rfl
instance (ws : List Int) : Decidable (Wts ws) := by unfold Wts; infer_instance
instance (q : Int) (ws : List Int) : Decidable (BodyP q ws) := by unfold BodyP; infer_instance
theorem body_three : BodyP 3 [2, 1, 1] := by decide +kernel
theorem least_three : lN (leastL (winB 3 [2, 1, 1]) (pw 3)) = [3, 5] := by decide +kernel
theorem turns_three : listI (turnI (winB 3 [2, 1, 1]) (pw 3)) 3 = [3, 1, 1] := by decide +kernel
theorem power_three : powR (winB 3 [2, 1, 1]) 3 0 = (2, 3) := by decide +kernel
theorem rule_four : RuleP 4 [3, 12] := by decide +kernel
theorem trade_four : TradeP (hasOne [3, 12]) (pw 4) (some (3, 12, 5)) := show FirstT _ _ _ _ _ from by decide +kernel
theorem last_four : lastOf 3 12 5 = 10 := by decide +kernel
theorem rule_three : RuleP 3 [3, 5] := by decide +kernel
theorem trade_three : TradeP (hasOne [3, 5]) (pw 3) none := show NoA _ _ _ from by decide +kernel
theorem weights_three : wtM none (hasOne [3, 5]) 3 = some (3, [2, 1, 1]) := by decide +kernel
end Go.Proofs.Ytnnndooagpkgmaa
