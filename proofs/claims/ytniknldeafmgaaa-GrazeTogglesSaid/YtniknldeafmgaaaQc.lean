/- Layer 8, the specification: Back. -/
import Derived.Test.YtniknldeafmgaaaQb
namespace Go.Proofs.Ytniknldeafmgaaa
set_option linter.unusedSimpArgs false
set_option linter.unusedVariables false
open Go Go.RowKit

theorem bk_ge {a b : Nat} {g : Nat → Nat} (hs : IsS a b g) : ∀ r, r ≤ a → g r ≤ bk a b g r
  | 0, _ => hs.p.gb 0
  | r + 1, h => by
    have ih := bk_ge hs r (by omega)
    have hd := hs.dn r
    unfold bk
    split
    · rename_i c
      by_cases e : r + 1 = a
      · rw [hs.zr (r + 1) (by omega)]; omega
      · unfold lea at c; rw [if_neg e] at c; omega
    · omega
/-- While row k is looked at: the columns below j. -/
def bJ (a b : Nat) (g : Nat → Nat) (k j : Nat) : Nat := if g k ≤ j ∧ lea a g k < g k then bk a b g (k + 1) else bk a b g k
theorem bJ_zero (a b : Nat) (g : Nat → Nat) (k : Nat) : bJ a b g k 0 = bk a b g k := by unfold bJ; rw [if_neg (by omega)]
theorem bJ_end {a b : Nat} {g : Nat → Nat} (hs : IsS a b g) (k : Nat) : bJ a b g k b = bk a b g (k + 1) := by
  unfold bJ
  have := hs.p.gb k
  by_cases c : lea a g k < g k
  · rw [if_pos ⟨this, c⟩]
  · rw [if_neg (fun h => c h.2)]
    conv => rhs; unfold bk
    rw [if_neg (by omega)]
theorem bJ_yes {a b : Nat} {g : Nat → Nat} (hs : IsS a b g) {k j : Nat} (hk : k < a) (h : enf a g k j) : bJ a b g k (j + 1) = min (bJ a b g k j) j := by
  unfold enf at h
  have h1 := bk_ge hs k (by omega)
  unfold bJ
  rw [if_pos (by omega), if_neg (by omega)]
  unfold bk
  rw [if_pos (by omega)]
  unfold bk at h1
  omega
theorem bJ_no {a b : Nat} {g : Nat → Nat} {k j : Nat} (h : ¬ enf a g k j) : bJ a b g k (j + 1) = bJ a b g k j := by
  unfold enf at h
  unfold bJ
  by_cases c : g k ≤ j ∧ lea a g k < g k
  · rw [if_pos c, if_pos (by omega)]
  · rw [if_neg c, if_neg (by omega)]
theorem stL_snoc (k : Nat) (h : Nat → Nat) : stL (k + 1) h = stL k h ++ [(h k : Int)] := by unfold stL; rw [List.range_succ, List.map_append]; rfl
set_option maxRecDepth 100000 in
set_option maxHeartbeats 4000000 in
theorem refBack_yes (a b : Nat) (g : Nat → Nat) (ad : Option Addr) (c : Nat) (w : World) (hs : IsS a b g) (hI : Ints w ad (stL a g)) :
    Calls Try.prog 20 #[.int .i64 (a : Int), .int .i64 (b : Int), .slice ad a c] w (GotS a (bakF a b g) w) := by
  have hp := hs.p
  have ha1 := hp.a1
  have ha6 := hp.a6
  have hb1 := hp.b1
  have hb6 := hp.b6
  obtain ⟨i0, hi, hz0, hz1, hz2⟩ := info_parts infoInt
  have G0 := Lib.hid hi
  have G1 := Lib.hid hz0
  have G2 := Lib.hid hz1
  have G3 := Lib.hid hz2
  clear hi hz0 hz1 hz2
  have hA := asked_yes a b g ad c w hs hI
  have hI0 := Lib.hid hI
  have hN := Lib.hid (fun i j ad c w (h : Ints w ad (stL a g)) (hi : i < a) (hj : j < b) => refEnd_any a b g i j ad c w hp h hi (by omega))
  have hJ0 := Lib.hid (bJ_zero a b g)
  have hJe := Lib.hid (bJ_end hs)
  have hJy := Lib.hid (fun k j (hk : k < a) (h : enf a g k j) => bJ_yes hs hk h)
  have hJn := Lib.hid (fun k j (h : ¬ enf a g k j) => bJ_no (b := b) h)
  have hbl := Lib.hid (bk_le hp)
  have hb0 : Hid (bk a b g 0 = b) := Lib.hid rfl
  have hbf : Hid (∀ i, i < a → bakF a b g i = bk a b g (i + 1)) := Lib.hid (fun i hi => if_pos hi)
  have hsn := Lib.hid (fun k => stL_snoc k (bakF a b g))
  have hs0 : Hid (stL 0 (bakF a b g) = []) := Lib.hid rfl
  have hsl := Lib.hid (fun k => stL_len k (bakF a b g))
  clear hs hI hp
  go_enter Try.func20, Try.ntmps20
  go_wp2_with (go_at_call 48; refine hA.mono ?_; rintro _ w1 ⟨rfl, hw1⟩)
  have hs1 := hw1.size
  go_loopw [9, 10, 11, 12, 13] (fun v i _ _ _ wr => ∃ n : Nat, n ≤ a ∧ i = .int .i64 (n : Int) ∧ wr.ownsRow w.heap.size 3 1 v n (lI (stL n (bakF a b g))) ∧ Below w.heap.size w wr) (fun _ i _ _ _ _ => a - (intOf i).toNat)
  case atStart => exact ⟨0, Nat.zero_le _, rfl, by rw [hs0.out]; exact World.ownsRow_nil _ _ _ _, hw1⟩
  case round =>
    obtain ⟨n, hn, rfl, hown, B⟩ := hrel
    obtain ⟨av, cv, rfl, hcv⟩ := own_slice hown
    replace hown := Lib.hid hown
    replace B := Lib.hid B
    by_cases hna : n < a
    · have hna' : (n : Int) < (a : Int) := by omega
      have hsn' := Lib.hid (hsn.out n)
      have hbf' := Lib.hid (hbf.out n hna)
      have hIw := Lib.hid (hI0.out.next B.out)
      go_wp2
      go_loopw [11, 12, 13] (fun x k _ wx => wx = wr ∧ ∃ q : Nat, q ≤ n + 1 ∧ k = .int .i64 (q : Int) ∧ x = .int .i64 ((bk a b g q : Nat) : Int)) (fun _ k _ _ => n + 1 - (intOf k).toNat)
      case atStart => exact ⟨rfl, 0, Nat.zero_le _, rfl, by rw [hb0.out]⟩
      case round =>
        obtain ⟨rfl, q, hq, rfl, rfl⟩ := hrel
        have hbq := hbl.out q
        by_cases hqn : q ≤ n
        · have hqn' : (q : Int) ≤ (n : Int) := by omega
          have hJ0' := Lib.hid (hJ0.out q)
          have hJe' := Lib.hid (hJe.out q)
          go_wp2
          go_loopw [11, 13] (fun x j wx => wx = wr ∧ ∃ m : Nat, m ≤ b ∧ j = .int .i64 (m : Int) ∧ x = .int .i64 ((bJ a b g q m : Nat) : Int)) (fun _ j _ => b - (intOf j).toNat)
          case atStart => exact ⟨rfl, 0, Nat.zero_le _, rfl, by rw [hJ0'.out]⟩
          case round =>
            obtain ⟨rfl, m, hm, rfl, rfl⟩ := hrel
            by_cases hmb : m < b
            · have hmb' : (m : Int) < (b : Int) := by omega
              by_cases he : enf a g q m
              · have e1 := hJy.out q m (by omega) he
                have hNw := Lib.hid (by have := hN.out q m ad c wr hIw.out (by omega) hmb; rwa [decide_eq_true he] at this)
                replace e1 := Lib.hid e1
                replace he := Lib.hid he
                generalize bJ a b g q m = x at *
                go_wp2_with (go_at_call 51; (with_reducible refine hNw.out.mono ?_); rintro _ _ ⟨rfl, rfl⟩)
                go_roundw
                case rel => exact ⟨trivial, m + 1, by omega, by go_num, congrArg (Value.int .i64) (by have := e1.out; omega)⟩
                case measure => simp [intOf]; omega
              · have e1 := Lib.hid (hJn.out q m he)
                have hNw := Lib.hid (by have := hN.out q m ad c wr hIw.out (by omega) hmb; rwa [decide_eq_false he] at this)
                replace he := Lib.hid he
                go_wp2_with (go_at_call 51; (with_reducible refine hNw.out.mono ?_); rintro _ _ ⟨rfl, rfl⟩)
                go_roundw
                case rel => exact ⟨trivial, m + 1, by omega, by go_num, by rw [e1.out]⟩
                case measure => simp [intOf]; omega
            · have hmb' : (b : Int) ≤ (m : Int) := by omega
              have e1 : Hid (bJ a b g q m = bk a b g (q + 1)) := Lib.hid (by rw [show m = b by omega]; exact hJe'.out)
              go_wp2
              go_roundw
              case rel => exact ⟨trivial, q + 1, by omega, by go_num, by rw [e1.out]⟩
              case measure => simp [intOf]; omega
        · have hqn' : (n : Int) < (q : Int) := by omega
          have e1 : Hid (bk a b g q = bakF a b g n) := Lib.hid (by rw [hbf'.out, show q = n + 1 by omega])
          have hbq' := hbq
          rw [e1.out] at hbq' ⊢
          have hc1 := Lib.hid (cell_one_new wr ((bakF a b g n : Nat) : Int) 3)
          have hB := B.out.size
          generalize hxx : bakF a b g n = x at *
          replace hxx := Lib.hid hxx
          go_wp2_with (at_builtin; refine wpList_append_own _ rfl _ _ 22 rfl w.heap.size 3 i0 (.int .i64 0) 1 8 Try.underlying22 G0.out G1.out G2.out G3.out rfl (by decide) _ _ _ rfl (hown.out.alloc _) ⟨_, 0, none⟩ 1 1 [.int .i64 (x : Int)] rfl rfl hc1.out (by simp [Value.oneCell']) (by unfold maxLen; omega) (by omega) (by simp; omega) ?_; intro v' w6 hown6 hgrow _)
          have B6 := (B.out.alloc hB _).grown hgrow (by simp; omega) (fun q hq => (hown.out.lt q hq).1)
          go_roundw
          case rel => exact ⟨n + 1, by omega, by go_num, by rw [hsn'.out, lI_snoc]; exact hown6, B6⟩
          case measure => simp [intOf]; omega
    · have hna' : (a : Int) ≤ (n : Int) := by omega
      obtain rfl : n = a := by omega
      obtain ⟨a1, c1, e1, hc1, hI1⟩ := own_intsA hown.out (hsl.out n)
      cases e1
      replace hI1 := Lib.hid hI1
      go_wp2
      go_ret2
      exact ⟨av, cv, rfl, hI1.out, B.out⟩
end Go.Proofs.Ytniknldeafmgaaa
