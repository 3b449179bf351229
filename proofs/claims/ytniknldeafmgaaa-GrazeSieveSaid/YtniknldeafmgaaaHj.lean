/- Layer 8, by the program: Of. -/
import Derived.Test.YtniknldeafmgaaaNd
namespace Go.Proofs.Ytniknldeafmgaaa
set_option linter.unusedSimpArgs false
set_option linter.unusedVariables false
open Go Go.RowKit

set_option maxRecDepth 100000 in
theorem pastureOfWord_no (a b : Nat) (s : ByteArray) (w : World) (hw : ¬ IsW a b s.data.toList) (ha : a ≤ 6) (hb : b ≤ 6) :
    Calls Try.prog 71 #[.int .i64 (a : Int), .int .i64 (b : Int), .string s] w (Ret (.tuple #[pV 0 0 (fun _ => 0), .bool false]) w) := by
  have hU := Lib.hid (fun w => count_any s 117 w)
  have hR := Lib.hid (fun w => count_any s 114 w)
  have hl : s.data.toList.length = s.size := by rw [Array.length_toList]; rfl
  have h1 : s.size ≠ a + b ∨ (s.size = a + b ∧ s.data.toList.count 117 ≠ a) ∨ (s.size = a + b ∧ s.data.toList.count 117 = a ∧ s.data.toList.count 114 ≠ b) := by
    by_cases e1 : s.size = a + b
    · by_cases e2 : s.data.toList.count 117 = a
      · exact .inr (.inr ⟨e1, e2, fun e3 => hw ⟨by rw [hl, e1], e2, e3⟩⟩)
      · exact .inr (.inl ⟨e1, e2⟩)
    · exact .inl e1
  generalize s.data.toList.count 117 = u at *
  generalize s.data.toList.count 114 = r at *
  have k0 := Lib.hid (Blk.new w 66 zC)
  have X2 := Lib.hid (end_put (a := 0) (b := 0) (g := fun _ => 0) (w := w) (D := w.heap.size) (by omega) (b1 w (.cells zC 66)) (Blk.new w 66 zC))
  clear hw hl
  rcases h1 with e | ⟨e1, e⟩ | ⟨e1, e2, e⟩
  · have d1 : ((s.size : Int) == (a : Int) + (b : Int)) = false := by rw [beq_eq_false_iff_ne]; omega
    have e' : ¬ ((s.size : Int) = (a : Int) + (b : Int)) := by omega
    replace e := Lib.hid e
    go_enter Try.func71, Try.ntmps71
    go_upto_region 1 with (fail)
    generalize w.alloc (.cells zC 66) = W at *
    obtain ⟨r0, r1, r2, r3, r4, r5, r6, r7⟩ := k0.out.zc
    have f0 := k0.out.fr
    go_wp2
    exact bodyPost_ret (results_pe rfl X2.out.1 rfl rfl) rfl ⟨rfl, X2.out.2⟩
  · have d1 : ((u : Int) == (a : Int)) = false := by rw [beq_eq_false_iff_ne]; omega
    have e' : ¬ ((u : Int) = (a : Int)) := by omega
    replace e := Lib.hid e
    go_enter Try.func71, Try.ntmps71
    go_upto_region 1 with (fail)
    generalize w.alloc (.cells zC 66) = W at *
    obtain ⟨r0, r1, r2, r3, r4, r5, r6, r7⟩ := k0.out.zc
    have f0 := k0.out.fr
    go_wp2_with (first
      | (go_at_call 81; (with_reducible refine (hU.out _).mono ?_); rintro _ _ ⟨rfl, rfl⟩))
    exact bodyPost_ret (results_pe rfl X2.out.1 rfl rfl) rfl ⟨rfl, X2.out.2⟩
  · subst e2
    have d1 : ((r : Int) == (b : Int)) = false := by rw [beq_eq_false_iff_ne]; omega
    have e' : ¬ ((r : Int) = (b : Int)) := by omega
    replace e := Lib.hid e
    go_enter Try.func71, Try.ntmps71
    go_upto_region 1 with (fail)
    generalize w.alloc (.cells zC 66) = W at *
    obtain ⟨r0, r1, r2, r3, r4, r5, r6, r7⟩ := k0.out.zc
    have f0 := k0.out.fr
    go_wp2_with (first
      | (go_at_call 81; (with_reducible refine (hU.out _).mono ?_); rintro _ _ ⟨rfl, rfl⟩)
      | (go_at_call 81; (with_reducible refine (hR.out _).mono ?_); rintro _ _ ⟨rfl, rfl⟩))
    exact bodyPost_ret (results_pe rfl X2.out.1 rfl rfl) rfl ⟨rfl, X2.out.2⟩
theorem Of_yes (a b : Nat) (l : List UInt8) (w : World) (ha : 1 ≤ a ∧ a ≤ 6) (hb : 1 ≤ b ∧ b ≤ 6) (hw : IsW a b l) :
    Calls Try.prog 36 #[.int .i64 (a : Int), .int .i64 (b : Int), .string (bytesOf l)] w (CopyE (stL a (ofF a l)) w) := by
  have hS := ofF_S ha hb hw
  have hP := pastureOfWord_yes a b l w ha hb hw
  have hZ : ∀ w, Calls Try.prog 70 #[.int .i64 (a : Int), .int .i64 (b : Int)] w (Only (.bool true) w) := fun w => by have := isSize_any (a : Int) (b : Int) w; rwa [decide_eq_true hS.p.sz] at this
  have hL := Lib.hid (fun w => list_any a b (ofF a l) w hS.p)
  generalize ofF a l = g at *
  clear hS hw ha hb
  go_enter Try.func36, Try.ntmps36
  go_upto_region 4 with (first | (go_at_call 70; refine (hZ _).mono ?_; rintro _ _ ⟨rfl, rfl⟩) | (go_at_call 71; refine hP.mono ?_; rintro _ w1 ⟨rfl, hw1⟩))
  have k0 := Lib.hid (Blk.new w1 66 (pC a b g))
  have B := Lib.hid (hw1.trans ((b1 w1 (.cells (pC a b g) 66)).mono hw1.size))
  clear hw1 hP
  generalize w1.alloc (.cells (pC a b g) 66) = W at *
  generalize w1.heap.size = D at *
  obtain ⟨p0, p1, p2, p3, p4, p5, p6, p7⟩ := k0.out.pc
  go_wp2_with (go_at_call 60; (with_reducible refine (hL.out _).mono ?_); rintro _ w3 ⟨G, c3, rfl, hc3, hG, hcell, hw3⟩)
  go_ret2
  have e1 := B.out.size
  exact ⟨G, c3, rfl, hc3, by omega, hcell, nextB B.out hw3⟩
theorem Of_form (a b : Nat) (s : ByteArray) (w : World) (ha : 1 ≤ a ∧ a ≤ 6) (hb : 1 ≤ b ∧ b ≤ 6) (hw : ¬ IsW a b s.data.toList) :
    Calls Try.prog 36 #[.int .i64 (a : Int), .int .i64 (b : Int), .string s] w (ErrL 5 w) := by
  have hP := pastureOfWord_no a b s w hw ha.2 hb.2
  have hZ : ∀ w, Calls Try.prog 70 #[.int .i64 (a : Int), .int .i64 (b : Int)] w (Only (.bool true) w) := fun w => by have := isSize_any (a : Int) (b : Int) w; rwa [decide_eq_true (by unfold SzP; omega)] at this
  clear hw ha hb
  go_enter Try.func36, Try.ntmps36
  go_wp2_with (first | (go_at_call 70; refine (hZ _).mono ?_; rintro _ _ ⟨rfl, rfl⟩) | (go_at_call 71; refine hP.mono ?_; rintro _ w1 ⟨rfl, hw1⟩))
  go_ret2
  exact Ret.mk rfl (hw1.trans ((b1 w1 _).mono hw1.size))
theorem Of_size (a b : Int) (v : Value) (w : World) (h : ¬ SzP a b) : Calls Try.prog 36 #[.int .i64 a, .int .i64 b, v] w (ErrL 2 w) := by
  have hZ : ∀ w, Calls Try.prog 70 #[.int .i64 a, .int .i64 b] w (Only (.bool false) w) := fun w => by have := isSize_any a b w; rwa [decide_eq_false h] at this
  clear h
  go_enter Try.func36, Try.ntmps36
  go_wp2_with (go_at_call 70; refine (hZ _).mono ?_; rintro _ _ ⟨rfl, rfl⟩)
  go_ret2
  exact Ret.mk rfl (Below.refl _ _)
end Go.Proofs.Ytniknldeafmgaaa
