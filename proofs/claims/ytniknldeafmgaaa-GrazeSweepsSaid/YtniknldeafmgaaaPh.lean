/- Layer 8, the law of sweeps and words, by the specification. -/
import Derived.Test.YtniknldeafmgaaaQh
import Derived.Test.YtniknldeafmgaaaQi
import Derived.Test.YtniknldeafmgaaaPg
namespace Go.Proofs.Ytniknldeafmgaaa
set_option linter.unusedSimpArgs false
set_option linter.unusedVariables false
open Go Go.RowKit

def BothS (a b : Int) (s : List Int) (n : Nat) : Prop := ∃ xs m r, xs.length = m ∧ m ≤ 6 ∧ ∀ ad c w, Ints w ad s →
  Calls Try.prog 32 #[.int .i64 a, .int .i64 b, .slice ad n c] w (AnsX xs m r w) ∧
  Calls Try.prog 33 #[.int .i64 a, .int .i64 b, .slice ad n c] w (AnsX xs m r w)
def BothW (a b : Int) (s : List Int) (n : Nat) : Prop := ∃ bs r, ∀ ad c w, Ints w ad s →
  Calls Try.prog 34 #[.int .i64 a, .int .i64 b, .slice ad n c] w (Ret (.tuple #[.string bs, .int .i64 r]) w) ∧
  Calls Try.prog 35 #[.int .i64 a, .int .i64 b, .slice ad n c] w (Ret (.tuple #[.string bs, .int .i64 r]) w)
def BothO (a b : Int) (s : ByteArray) : Prop := ∃ xs m r, xs.length = m ∧ m ≤ 6 ∧ ∀ w,
  Calls Try.prog 36 #[.int .i64 a, .int .i64 b, .string s] w (AnsX xs m r w) ∧
  Calls Try.prog 37 #[.int .i64 a, .int .i64 b, .string s] w (AnsX xs m r w)
theorem both_sweep (a b : Int) (s : List Int) (n : Nat) (hl : s.length = n) (hn : n ≤ 20) : BothS a b s n := by
  by_cases hS : StP a b s
  · obtain ⟨A, B, rfl, rfl, hS2, hx⟩ := hS.parts
    clear hS
    generalize gX s = g at *
    subst hx
    rw [stL_len] at hl
    subst hl
    exact ⟨_, A, 0, stL_len _ _, hS2.p.a6, fun ad c w hI => ⟨(Sweep_yes A B g ad c w hS2 hI).mono fun _ _ k => k.gotS.ans, (refSweep_yes A B g ad c w hS2 hI).mono fun _ _ k => k.ans⟩⟩
  · exact ⟨[], 0, 2, rfl, by omega, fun ad c w hI => ⟨(Sweep_no a b s ad n c w hI hl hS).mono fun _ _ k => ErrL.ans k, (refSweep_no a b s ad n c w hI hl (by omega) hS).mono fun _ _ k => ErrL.ans k⟩⟩
theorem both_word (a b : Int) (s : List Int) (n : Nat) (hl : s.length = n) (hn : n ≤ 20) : BothW a b s n := by
  by_cases hS : StP a b s
  · obtain ⟨A, B, rfl, rfl, hS2, hx⟩ := hS.parts
    clear hS
    generalize gX s = g at *
    subst hx
    rw [stL_len] at hl
    subst hl
    exact ⟨_, 0, fun ad c w hI => ⟨Word_yes A B g ad c w hS2 hI, refWord_yes A B g ad c w hS2 hI⟩⟩
  · exact ⟨_, 2, fun ad c w hI => ⟨Word_no a b s ad n c w hI hl hS, refWord_no a b s ad n c w hI hl (by omega) hS⟩⟩
theorem both_of (a b : Int) (s : ByteArray) : BothO a b s := by
  by_cases hs : SzP a b
  · have h := hs
    unfold SzP at h
    obtain ⟨A, rfl⟩ : ∃ A : Nat, a = A := ⟨a.toNat, by omega⟩
    obtain ⟨B, rfl⟩ : ∃ B : Nat, b = B := ⟨b.toNat, by omega⟩
    have hA : 1 ≤ A ∧ A ≤ 6 := by omega
    have hB : 1 ≤ B ∧ B ≤ 6 := by omega
    by_cases hW : IsW A B s.data.toList
    · refine ⟨_, A, 0, stL_len A (ofF A s.data.toList), hA.2, fun w => ⟨?_, (refOf_yes A B s w hA hB hW).mono fun _ _ k => k.ans⟩⟩
      have hO := Of_yes A B s.data.toList w hA hB hW
      rw [bytes_eta] at hO
      exact hO.mono fun _ _ k => k.gotS.ans
    · exact ⟨[], 0, 5, rfl, by omega, fun w => ⟨(Of_form A B s w hA hB hW).mono fun _ _ k => ErrL.ans k, (refOf_form A B s w hA hB hW).mono fun _ _ k => ErrL.ans k⟩⟩
  · exact ⟨[], 0, 2, rfl, by omega, fun w => ⟨(Of_size a b _ w hs).mono fun _ _ k => ErrL.ans k, (refOf_size a b _ w hs).mono fun _ _ k => ErrL.ans k⟩⟩
set_option maxRecDepth 100000 in
set_option maxHeartbeats 4000000 in
theorem sweeps_law (a b : Int) (ad : Option Addr) (n c : Nat) (xs : List Int) (s : ByteArray) (w : World) (hI : Ints w ad xs) (hl : xs.length = n) (hc : n ≤ c) (hn : ad = none → c = 0) :
    Calls Try.prog 6 #[.int .i64 a, .int .i64 b, .slice ad n c, .string s] w (Ret (.bool true) w) := by
  clear hc hn
  replace hI := Lib.hid hI
  replace hl := Lib.hid hl
  by_cases hlen : 20 < n
  · have hlen' : (20 : Int) < (n : Int) := by omega
    go_enter Try.func6, Try.ntmps6
    go_wp2_with (go_at_call 15; refine (alive_any _).mono ?_; rintro _ w1 ⟨rfl, hw1⟩)
    go_ret
    exact Ret.mk rfl hw1
  · have hlen' : (n : Int) ≤ 20 := by omega
    by_cases h40 : 40 < s.size
    · have h40' : (40 : Int) < (s.size : Int) := by omega
      go_enter Try.func6, Try.ntmps6
      go_wp2_with (go_at_call 15; refine (alive_any _).mono ?_; rintro _ w1 ⟨rfl, hw1⟩)
      go_ret
      exact Ret.mk rfl hw1
    · have h40' : (s.size : Int) ≤ 40 := by omega
      obtain ⟨ys, m, r, hym, hm6, hT⟩ := both_sweep a b xs n hl.out (by omega)
      obtain ⟨bs, r3, hW⟩ := both_word a b xs n hl.out (by omega)
      obtain ⟨zs, m2, r2, hzm, hm62, hTs⟩ := both_of a b s
      replace hT := Lib.hid hT
      replace hW := Lib.hid hW
      replace hTs := Lib.hid hTs
      have s1 := Lib.hid (same_xs ys m hym (by omega))
      have s2 := Lib.hid (same_xs zs m2 hzm (by omega))
      replace hym := Lib.hid hym
      replace hzm := Lib.hid hzm
      have B := Lib.hid (Below.refl w.heap.size w)
      have hq : ∀ W, (binOp .neq 9 (.string bs) (.string bs)).run Try.prog W = .ok (.bool false) W := fun W => by go_simp
      go_enter Try.func6, Try.ntmps6
      go_wp2_with (first
        | (go_at_call 32; (with_reducible refine ((hT.out _ _ _ hI.out).1).mono ?_); rintro _ w2 ⟨x1, z1, rfl, hx1, hb⟩; replace hI := Lib.hid (hI.out.next hb); replace hx1 := Lib.hid hx1; replace B := Lib.hid (B.out.trans (hb.mono B.out.size)); clear hb)
        | (go_at_call 33; (with_reducible refine ((hT.out _ _ _ hI.out).2).mono ?_); rintro _ w3 ⟨y1, u1, rfl, hy1, hb⟩; replace hI := Lib.hid (hI.out.next hb); replace hx1 := Lib.hid (hx1.out.next hb); replace hy1 := Lib.hid hy1; replace B := Lib.hid (B.out.trans (hb.mono B.out.size)); clear hb)
        | (go_at_call 18; (with_reducible refine (s1.out x1 y1 z1 u1 _ hx1.out hy1.out).mono ?_); rintro _ w4 ⟨rfl, hb⟩; replace hI := Lib.hid (hI.out.next hb); clear hx1 hy1; replace B := Lib.hid (B.out.trans (hb.mono B.out.size)); clear hb)
        | (go_at_call 34; (with_reducible refine ((hW.out _ _ _ hI.out).1).mono ?_); rintro _ w5 ⟨rfl, hb⟩; replace hI := Lib.hid (hI.out.next hb); replace B := Lib.hid (B.out.trans (hb.mono B.out.size)); clear hb)
        | (go_at_call 35; (with_reducible refine ((hW.out _ _ _ hI.out).2).mono ?_); rintro _ w6 ⟨rfl, hb⟩; replace hI := Lib.hid (hI.out.next hb); replace B := Lib.hid (B.out.trans (hb.mono B.out.size)); clear hb)
        | (go_at_call 36; (with_reducible refine ((hTs.out _).1).mono ?_); rintro _ w7 ⟨x2, z2, rfl, hx2, hb⟩; replace hx2 := Lib.hid hx2; replace B := Lib.hid (B.out.trans (hb.mono B.out.size)); clear hb)
        | (go_at_call 37; (with_reducible refine ((hTs.out _).2).mono ?_); rintro _ w8 ⟨y2, u2, rfl, hy2, hb⟩; replace hx2 := Lib.hid (hx2.out.next hb); replace hy2 := Lib.hid hy2; replace B := Lib.hid (B.out.trans (hb.mono B.out.size)); clear hb)
        | (go_at_call 18; (with_reducible refine (s2.out x2 y2 z2 u2 _ hx2.out hy2.out).mono ?_); rintro _ w9 ⟨rfl, hb⟩; clear hx2 hy2; replace B := Lib.hid (B.out.trans (hb.mono B.out.size)); clear hb)
        | (go_at_call 15; refine (alive_any _).mono ?_; rintro _ w10 ⟨rfl, hw10⟩))
      go_ret
      exact ⟨rfl, B.out.trans (hw10.mono B.out.size)⟩
end Go.Proofs.Ytniknldeafmgaaa
