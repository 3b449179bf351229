/- Layer 8, the specification: Ends. -/
import Derived.Test.YtniknldeafmgaaaQj
import Derived.Test.YtniknldeafmgaaaHl
import Derived.Maps.AppendAt
namespace Go.Proofs.Ytniknldeafmgaaa
set_option linter.unusedSimpArgs false
set_option linter.unusedVariables false
open Go Go.RowKit

theorem own_keepQ {w w' : World} {base n size : Nat} {e : TypeId} {v : Value} {xs : List Value} {row : Option Nat} (h : w.ownsRow base e size v n xs) (hg : w.grownBy w' row) (hne : ∀ g, v.ownBlock = some g → row ≠ some g) : w'.ownsRow base e size v n xs := by
  refine ⟨h.1, ?_⟩
  rcases h.2 with h0 | ⟨g, cap, cur, rfl, h1, h2, h3⟩
  · exact .inl h0
  · refine .inr ⟨g, cap, cur, rfl, h1, ?_, h3⟩
    rw [hg.block g (Array.getElem?_eq_some_iff.1 h2).1 (fun k => hne g rfl k.symm)]
    exact h2
/-- Two rows lie in different blocks. -/
def Apart (v1 v2 : Value) : Prop := ∀ q, v1.ownBlock = some q → v2.ownBlock ≠ some q
theorem Apart.symm {v1 v2 : Value} (h : Apart v1 v2) : Apart v2 v1 := fun q e1 e2 => h q e2 e1
theorem Apart.first {v1 v2 v' : Value} {z : Nat} (h : Apart v1 v2) (hf : v'.ownBlock = v1.ownBlock ∨ v'.ownBlock = some z) (hl : ∀ q, v2.ownBlock = some q → q < z) : Apart v' v2 := fun q e1 e2 => by
  rcases hf with f | f
  · rw [f] at e1; exact h q e1 e2
  · rw [f] at e1
    cases e1
    have := hl _ e2
    omega
set_option maxRecDepth 100000 in
set_option maxHeartbeats 4000000 in
theorem refEnds_yes (a b : Nat) (g : Nat → Nat) (ad : Option Addr) (c : Nat) (w : World) (hs : IsS a b g) (hI : Ints w ad (stL a g)) :
    Calls Try.prog 30 #[.int .i64 (a : Int), .int .i64 (b : Int), .slice ad a c] w (EndsR a b g w) := by
  obtain ⟨i0, hi, hz0, hz1, hz2⟩ := info_parts infoPair
  have G0 := Lib.hid hi
  have G1 := Lib.hid hz0
  have G2 := Lib.hid hz1
  have G3 := Lib.hid hz2
  clear hi hz0 hz1 hz2
  have hA := asked_yes a b g ad c w hs hI
  have ha6 := hs.p.a6
  have hb6 := hs.p.b6
  have hN := Lib.hid (fun i j w h hi hj => refNext_any a b g i j ad c w hs.p h hi hj)
  have hE := Lib.hid (fun i j w h hi hj => refEnd_any a b g i j ad c w hs.p h hi hj)
  have hU0 := Lib.hid (fun K => plU_zero K b)
  have hUe := Lib.hid (fun K => plU_end K b)
  have hUl := Lib.hid (fun K => plU_len K b)
  have hT0 : Hid (∀ K, plT K b 0 = []) := Lib.hid fun _ => rfl
  have hI0 := Lib.hid hI
  clear hs hI
  go_enter Try.func30, Try.ntmps30
  go_wp2_with (go_at_call 48; refine hA.mono ?_; rintro _ w1 ⟨rfl, hw1⟩; have B := Lib.hid hw1; clear hw1 hA)
  go_loopw [10, 11, 12, 13] (fun v1 v2 q _ wr => ∃ i : Nat, i ≤ a ∧ q = .int .i64 (i : Int) ∧ wr.ownsRow w.heap.size 31 2 v1 (plT (isE a g) b i).length (cQ (plT (isE a g) b i)) ∧ wr.ownsRow w.heap.size 31 2 v2 (plT (isN b g) b i).length (cQ (plT (isN b g) b i)) ∧ Apart v1 v2 ∧ Below w.heap.size w wr) (fun _ _ q _ _ => a - (intOf q).toNat)
  case atStart => exact ⟨0, Nat.zero_le _, rfl, by rw [hT0.out]; exact World.ownsRow_nil _ _ _ _, by rw [hT0.out]; exact World.ownsRow_nil _ _ _ _, fun q e => (by cases e), B.out⟩
  case round =>
    clear B
    obtain ⟨i, hi, rfl, hown1, hown2, hap, B⟩ := hrel
    obtain ⟨av, cv, rfl, hcv⟩ := own_slice' hown1
    obtain ⟨bv, dv, rfl, hdv⟩ := own_slice' hown2
    replace B := Lib.hid B
    replace hown1 := Lib.hid hown1
    replace hown2 := Lib.hid hown2
    replace hap := Lib.hid hap
    by_cases hia : i < a
    · have hia' : (i : Int) < (a : Int) := by omega
      have hU0' := Lib.hid (fun K => hU0.out K i)
      have hUe' := Lib.hid (fun K => hUe.out K i)
      have hUl' := Lib.hid (fun K => hUl.out K i)
      go_wp2
      go_loopw [10, 11, 13] (fun v1 v2 q wr => ∃ j : Nat, j ≤ b ∧ q = .int .i64 (j : Int) ∧ wr.ownsRow w.heap.size 31 2 v1 (plU (isE a g) b i j).length (cQ (plU (isE a g) b i j)) ∧ wr.ownsRow w.heap.size 31 2 v2 (plU (isN b g) b i j).length (cQ (plU (isN b g) b i j)) ∧ Apart v1 v2 ∧ Below w.heap.size w wr) (fun _ _ q _ => b - (intOf q).toNat)
      case atStart => exact ⟨0, Nat.zero_le _, rfl, by rw [hU0'.out]; exact hown1.out, by rw [hU0'.out]; exact hown2.out, hap.out, B.out⟩
      case round =>
        clear hown1 hown2 hap B
        obtain ⟨j, hj, rfl, hown1, hown2, hap, B⟩ := hrel
        obtain ⟨av, cv, rfl, hcv⟩ := own_slice' hown1
        obtain ⟨bv, dv, rfl, hdv⟩ := own_slice' hown2
        have hsz := B.size
        replace B := Lib.hid B
        replace hown1 := Lib.hid hown1
        replace hown2 := Lib.hid hown2
        replace hap := Lib.hid hap
        by_cases hjb : j < b
        · have hjb' : (j : Int) < (b : Int) := by omega
          have hib : i * b ≤ 30 := by
            have := Nat.mul_le_mul (show i ≤ 5 by omega) hb6
            omega
          have hlen1 := hUl'.out (isE a g) j
          have hlen2 := hUl'.out (isN b g) j
          by_cases hE1 : enf a g i j
          · have hN1 : ¬ nxt b g i j := by unfold enf at hE1; unfold nxt; omega
            have hEc := Lib.hid (fun w h => by have := hE.out i j w h hia (by omega); rwa [decide_eq_true hE1] at this)
            have hNc := Lib.hid (fun w h => by have := hN.out i j w h hia hjb; rwa [decide_eq_false hN1] at this)
            have e1 := Lib.hid (plU_yes (b := b) (K := isE a g) (i := i) (j := j) (decide_eq_true hE1))
            have e2 := Lib.hid (plU_no (b := b) (K := isN b g) (i := i) (j := j) (decide_eq_false hN1))
            clear hE1 hN1
            obtain ⟨N, hN'⟩ : ∃ N, Hid ((plU (isE a g) b i j).length = N) := ⟨_, Lib.hid rfl⟩
            rw [hN'.out] at hlen1 hown1 hcv hap ⊢
            have hc2 := Lib.hid (cell_two_pair wr (i : Int) (j : Int) 31)
            have hNM : N + 1 ≤ 1000 := by omega
            have o1 := Lib.hid (hown1.out.alloc (.cells #[.int .i64 (i : Int), .int .i64 (j : Int)] 31))
            have o2 := Lib.hid (hown2.out.alloc (.cells #[.int .i64 (i : Int), .int .i64 (j : Int)] 31))
            go_wp2_with (first
              | (go_at_call 51; (with_reducible refine (hEc.out _ (hI0.out.next B.out)).mono ?_); rintro _ _ ⟨rfl, rfl⟩)
              | (at_builtin; refine wpList_append_own_at _ rfl _ _ 32 rfl w.heap.size 31 i0 (.agg #[.int .i64 0, .int .i64 0]) 2 16 Try.underlying32 G0.out G1.out G2.out G3.out rfl (by decide) _ _ _ rfl o1.out ⟨_, 0, none⟩ 1 1 [.int .i64 (i : Int), .int .i64 (j : Int)] rfl rfl hc2.out (by simp [Value.oneCell']) (by unfold maxLen; omega) (by omega) (by simp; omega) ?_; intro v' w6 hown6 hgrow _ hblk; have B6 := Lib.hid ((B.out.alloc hsz (.cells #[.int .i64 (i : Int), .int .i64 (j : Int)] 31)).grown hgrow (by simp; omega) (fun q hq => by have := (o1.out.lt q hq).1; omega)); replace hown6 := Lib.hid hown6; have m2 := Lib.hid (own_keepQ o2.out hgrow (fun q h1 h2 => hap.out q h2 h1)); have hap6 := Lib.hid (hap.out.first hblk (fun q h => (o2.out.lt q h).2)))
              | (go_at_call 66; (with_reducible refine (hNc.out _ (hI0.out.next B6.out)).mono ?_); rintro _ _ ⟨rfl, rfl⟩))
            go_roundw
            case rel => exact ⟨j + 1, by omega, by go_num, by rw [e1.out, List.length_append, hN'.out, cQ_snoc]; exact hown6.out, by rw [e2.out]; exact m2.out, hap6.out, B6.out⟩
            case measure => simp [intOf]; omega
          · have hEc := Lib.hid (fun w h => by have := hE.out i j w h hia (by omega); rwa [decide_eq_false hE1] at this)
            have e1 := Lib.hid (plU_no (b := b) (K := isE a g) (i := i) (j := j) (decide_eq_false hE1))
            by_cases hN1 : nxt b g i j
            · have hNc := Lib.hid (fun w h => by have := hN.out i j w h hia hjb; rwa [decide_eq_true hN1] at this)
              have e2 := Lib.hid (plU_yes (b := b) (K := isN b g) (i := i) (j := j) (decide_eq_true hN1))
              clear hE1 hN1
              obtain ⟨N, hN'⟩ : ∃ N, Hid ((plU (isN b g) b i j).length = N) := ⟨_, Lib.hid rfl⟩
              rw [hN'.out] at hlen2 hown2 hdv hap ⊢
              have hc2 := Lib.hid (cell_two_pair wr (i : Int) (j : Int) 31)
              have hNM : N + 1 ≤ 1000 := by omega
              have o1 := Lib.hid (hown1.out.alloc (.cells #[.int .i64 (i : Int), .int .i64 (j : Int)] 31))
              have o2 := Lib.hid (hown2.out.alloc (.cells #[.int .i64 (i : Int), .int .i64 (j : Int)] 31))
              go_wp2_with (first
                | (go_at_call 51; (with_reducible refine (hEc.out _ (hI0.out.next B.out)).mono ?_); rintro _ _ ⟨rfl, rfl⟩)
                | (go_at_call 66; (with_reducible refine (hNc.out _ (hI0.out.next B.out)).mono ?_); rintro _ _ ⟨rfl, rfl⟩)
                | (at_builtin; refine wpList_append_own_at _ rfl _ _ 32 rfl w.heap.size 31 i0 (.agg #[.int .i64 0, .int .i64 0]) 2 16 Try.underlying32 G0.out G1.out G2.out G3.out rfl (by decide) _ _ _ rfl o2.out ⟨_, 0, none⟩ 1 1 [.int .i64 (i : Int), .int .i64 (j : Int)] rfl rfl hc2.out (by simp [Value.oneCell']) (by unfold maxLen; omega) (by omega) (by simp; omega) ?_; intro v' w6 hown6 hgrow _ hblk; have B6 := Lib.hid ((B.out.alloc hsz (.cells #[.int .i64 (i : Int), .int .i64 (j : Int)] 31)).grown hgrow (by simp; omega) (fun q hq => by have := (o2.out.lt q hq).1; omega)); replace hown6 := Lib.hid hown6; have m1 := Lib.hid (own_keepQ o1.out hgrow (fun q h1 h2 => hap.out q h1 h2)); have hap6 := Lib.hid ((hap.out.symm.first hblk (fun q h => (o1.out.lt q h).2)).symm)))
              go_roundw
              case rel => exact ⟨j + 1, by omega, by go_num, by rw [e1.out]; exact m1.out, by rw [e2.out, List.length_append, hN'.out, cQ_snoc]; exact hown6.out, hap6.out, B6.out⟩
              case measure => simp [intOf]; omega
            · have hNc := Lib.hid (fun w h => by have := hN.out i j w h hia hjb; rwa [decide_eq_false hN1] at this)
              have e2 := Lib.hid (plU_no (b := b) (K := isN b g) (i := i) (j := j) (decide_eq_false hN1))
              clear hE1 hN1
              go_wp2_with (first
                | (go_at_call 51; (with_reducible refine (hEc.out _ (hI0.out.next B.out)).mono ?_); rintro _ _ ⟨rfl, rfl⟩)
                | (go_at_call 66; (with_reducible refine (hNc.out _ (hI0.out.next B.out)).mono ?_); rintro _ _ ⟨rfl, rfl⟩))
              go_roundw
              case rel => exact ⟨j + 1, by omega, by go_num, by rw [e1.out]; exact hown1.out, by rw [e2.out]; exact hown2.out, hap.out, B.out⟩
              case measure => simp [intOf]; omega
        · have hjb' : (b : Int) ≤ (j : Int) := by omega
          obtain rfl : j = b := by omega
          rw [hUe'.out] at hown1 hown2 hap ⊢
          rw [hUe'.out] at hap ⊢
          go_wp2
          go_roundw
          case rel => exact ⟨i + 1, by omega, by go_num, hown1.out, hown2.out, hap.out, B.out⟩
          case measure => simp [intOf]; omega
    · have hia' : (a : Int) ≤ (i : Int) := by omega
      obtain rfl : i = a := by omega
      go_wp2
      exact bodyPost_ret (results_t3 rfl rfl rfl rfl) rfl ⟨_, _, rfl, hown1.out, hown2.out, B.out⟩
theorem refEnds_no (a b : Int) (xs : List Int) (ad : Option Addr) (n c : Nat) (w : World) (hI : Ints w ad xs) (hl : xs.length = n) (hn : n ≤ 4611686018427387904) (h : ¬ StP a b xs) :
    Calls Try.prog 30 #[.int .i64 a, .int .i64 b, .slice ad n c] w (Ret (.tuple #[.slice none 0 0, .slice none 0 0, .int .i64 2]) w) := by
  have hA := asked_no a b xs ad n c w hI hl hn h
  clear hI hl h hn
  go_enter Try.func30, Try.ntmps30
  go_wp2_with (go_at_call 48; refine hA.mono ?_; rintro _ w1 ⟨rfl, hw1⟩)
  exact bodyPost_ret (results_t3 rfl rfl rfl rfl) rfl (Ret.mk rfl hw1)
end Go.Proofs.Ytniknldeafmgaaa
