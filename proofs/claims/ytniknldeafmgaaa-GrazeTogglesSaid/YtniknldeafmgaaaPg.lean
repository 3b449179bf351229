/- Layer 8, the law of turns, by the specification. -/
import Derived.Test.YtniknldeafmgaaaQf
import Derived.Test.YtniknldeafmgaaaHg
namespace Go.Proofs.Ytniknldeafmgaaa
set_option linter.unusedSimpArgs false
set_option linter.unusedVariables false
open Go Go.RowKit

/-- Numbers, and an error's number, were returned. -/
def AnsX (xs : List Int) (n : Nat) (r : Int) (w : World) (e : Ending) (w' : World) : Prop := ∃ ad c, e = .returned (.tuple #[.slice ad n c, .int .i64 r]) ∧ Ints w' ad xs ∧ Below w.heap.size w w'
theorem GotS.ans {a : Nat} {g : Nat → Nat} {w w' : World} {e : Ending} (h : GotS a g w e w') : AnsX (stL a g) a 0 w e w' := h
theorem ErrL.ans {r : Int} {w w' : World} {e : Ending} (h : ErrL r w e w') : AnsX [] 0 r w e w' := by
  obtain ⟨h1, h2⟩ := h
  exact ⟨none, 0, h1, .inl rfl, h2⟩
/-- Both return the same. -/
def BothT (a b : Int) (s : List Int) (n : Nat) (x y : Int) : Prop := ∃ xs m r, xs.length = m ∧ m ≤ 6 ∧ ∀ ad c w, Ints w ad s →
  Calls Try.prog 23 #[.int .i64 a, .int .i64 b, .slice ad n c, .int .i64 x, .int .i64 y] w (AnsX xs m r w) ∧
  Calls Try.prog 24 #[.int .i64 a, .int .i64 b, .slice ad n c, .int .i64 x, .int .i64 y] w (AnsX xs m r w)
def BothTs (a b : Int) (s : List Int) (n : Nat) (L : List (Int × Int)) (k : Nat) : Prop := ∃ xs m r, xs.length = m ∧ m ≤ 6 ∧ ∀ ad c ap cp w, Ints w ad s → Prs w ap L →
  Calls Try.prog 25 #[.int .i64 a, .int .i64 b, .slice ad n c, .slice ap k cp] w (AnsX xs m r w) ∧
  Calls Try.prog 26 #[.int .i64 a, .int .i64 b, .slice ad n c, .slice ap k cp] w (AnsX xs m r w)
theorem both_turn (a b : Int) (s : List Int) (n : Nat) (x y : Int) (hl : s.length = n) (hn : n ≤ 20) : BothT a b s n x y := by
  by_cases hS : StP a b s
  · obtain ⟨A, B, rfl, rfl, hS2, hx⟩ := hS.parts
    clear hS
    generalize gX s = g at *
    subst hx
    rw [stL_len] at hl
    subst hl
    by_cases h : HasP A B x y
    · exact ⟨_, A, 0, stL_len _ _, hS2.p.a6, fun ad c w hI => ⟨(Turn_yes A B g x y ad c w hS2 hI h).mono fun _ _ k => k.gotS.ans, (refTurn_yes A B g x y ad c w hS2 hI h).mono fun _ _ k => k.ans⟩⟩
    · exact ⟨[], 0, 2, rfl, by omega, fun ad c w hI => ⟨(Turn_bad A B g x y ad c w hS2 hI h).mono fun _ _ k => ErrL.ans k, (refTurn_bad A B g x y ad c w hS2 hI h).mono fun _ _ k => ErrL.ans k⟩⟩
  · exact ⟨[], 0, 2, rfl, by omega, fun ad c w hI => ⟨(Turn_no a b s x y ad n c w hI hl hS).mono fun _ _ k => ErrL.ans k, (refTurn_no a b s x y ad n c w hI hl (by omega) hS).mono fun _ _ k => ErrL.ans k⟩⟩
theorem both_turns (a b : Int) (s : List Int) (n : Nat) (L : List (Int × Int)) (k : Nat) (hl : s.length = n) (hn : n ≤ 20) (hL : L.length = k) : BothTs a b s n L k := by
  by_cases hS : StP a b s
  · obtain ⟨A, B, rfl, rfl, hS2, hx⟩ := hS.parts
    clear hS
    generalize gX s = g at *
    subst hx
    rw [stL_len] at hl
    subst hl
    by_cases h2 : 200 < k
    · exact ⟨[], 0, 3, rfl, by omega, fun ad c ap cp w hI hP => ⟨(Turns_long A B g ad ap c k cp w hS2 hI h2).mono fun _ _ k => ErrL.ans k, (refTurns_long A B g ad ap c k cp w hS2 hI h2).mono fun _ _ k => ErrL.ans k⟩⟩
    · by_cases h : ∀ i, i < k → HasP A B (pth L i).1 (pth L i).2
      · exact ⟨_, A, 0, stL_len _ _, hS2.p.a6, fun ad c ap cp w hI hP => ⟨(Turns_yes A B g L ad ap c k cp w hS2 hI hP hL (by omega) h).mono fun _ _ k => k.gotS.ans, (refTurns_yes A B g L ad ap c k cp w hS2 hI hP hL (by omega) h).mono fun _ _ k => k.ans⟩⟩
      · exact ⟨[], 0, 2, rfl, by omega, fun ad c ap cp w hI hP => ⟨(Turns_bad A B g L ad ap c k cp w hS2 hI hP hL (by omega) h).mono fun _ _ k => ErrL.ans k, (refTurns_bad A B g L ad ap c k cp w hS2 hI hP hL (by omega) h).mono fun _ _ k => ErrL.ans k⟩⟩
  · exact ⟨[], 0, 2, rfl, by omega, fun ad c ap cp w hI hP => ⟨(Turns_no a b s ad n c _ w hI hl hS).mono fun _ _ k => ErrL.ans k, (refTurns_no a b s _ ad n c w hI hl (by omega) hS).mono fun _ _ k => ErrL.ans k⟩⟩
theorem same_xs (xs : List Int) (n : Nat) (hl : xs.length = n) (hn : n ≤ 20) (ad ad' : Option Addr) (c c' : Nat) (w : World) (hI : Ints w ad xs) (hI' : Ints w ad' xs) : Calls Try.prog 18 #[.slice ad n c, .slice ad' n c'] w (Ret (.bool true) w) := by
  have := same_any ad ad' n n c c' xs xs w hI hI' hl hl (by omega) (by omega)
  rwa [decide_eq_true rfl] at this
set_option maxRecDepth 100000 in
set_option maxHeartbeats 4000000 in
theorem turns_law (a b : Int) (ad : Option Addr) (n c : Nat) (xs : List Int) (x y : Int) (ap : Option Addr) (k cp : Nat) (L : List (Int × Int)) (w : World) (hI : Ints w ad xs) (hl : xs.length = n) (hc : n ≤ c) (hn : ad = none → c = 0) (hP : Prs w ap L) (hL : L.length = k) (_hk : k ≤ cp) (_hz : ap = none → cp = 0) :
    Calls Try.prog 4 #[.int .i64 a, .int .i64 b, .slice ad n c, .agg #[.int .i64 x, .int .i64 y], .slice ap k cp] w (Ret (.bool true) w) := by
  clear _hk _hz
  have hq := Lib.hid (Blk.new w 31 (qC x y))
  have B0 := b1 w (.cells (qC x y) 31)
  replace hI := Lib.hid (hI.next B0)
  replace hP := Lib.hid (hP.next B0)
  replace B0 := Lib.hid B0
  replace hl := Lib.hid hl
  replace hL := Lib.hid hL
  replace hn := Lib.hid hn
  by_cases hlen : 20 < n
  · have hlen' : (20 : Int) < (n : Int) := by omega
    go_enter Try.func4, Try.ntmps4
    go_wp2_with (go_at_call 15; refine (alive_any _).mono ?_; rintro _ w1 ⟨rfl, hw1⟩)
    go_ret
    exact Ret.mk rfl (nextB B0.out hw1)
  · have hlen' : (n : Int) ≤ 20 := by omega
    have hd20 : decide ((20 : Int) < (n : Int)) = false := decide_eq_false (by omega)
    by_cases hlk : 300 < k
    · have hlk' : (300 : Int) < (k : Int) := by omega
      go_enter Try.func4, Try.ntmps4
      go_wp2_with (go_at_call 15; refine (alive_any _).mono ?_; rintro _ w1 ⟨rfl, hw1⟩)
      go_ret
      exact Ret.mk rfl (nextB B0.out hw1)
    · have hlk' : (k : Int) ≤ 300 := by omega
      obtain ⟨ys, m, r, hym, hm6, hT⟩ := both_turn a b xs n x y hl.out (by omega)
      obtain ⟨zs, m2, r2, hzm, hm62, hTs⟩ := both_turns a b xs n L k hl.out (by omega) hL.out
      replace hT := Lib.hid hT
      replace hTs := Lib.hid hTs
      have s1 := Lib.hid (same_xs ys m hym (by omega))
      have s2 := Lib.hid (same_xs zs m2 hzm (by omega))
      have s3 := Lib.hid (same_xs xs n hl.out (by omega))
      replace hym := Lib.hid hym
      replace hzm := Lib.hid hzm
      go_enter Try.func4, Try.ntmps4
      go_upto_region 3 with (fail)
      generalize w.alloc (.cells (qC x y) 31) = W at *
      have hs0 := Lib.hid (World.ownsRow_lit (base := W.heap.size) (e := 3) (size := 1) W #[] 0 (Nat.le_refl _) (by unfold maxLen; omega) rfl)
      have hIo := Lib.hid (hI.out.next (b1 W (.cells #[] 3)))
      go_upto_region 4 with (at_builtin; refine wpList_copy rfl _ _ rfl W.heap.size _ rfl hs0.out _ n c xs rfl hIo.out hl.out hn.out (by omega) (by simp) ?_; intro ao co w1 hown1 hg1 hco hJ)
      have B1 := (b1 W (.cells #[] 3)).grown hg1 (by simp) (fun q hq => by have := (hs0.out.lt q hq).1; omega)
      replace hI := Lib.hid (hI.out.next B1)
      replace hP := Lib.hid (hP.out.next B1)
      replace hq := Lib.hid (hq.out.ext B1)
      have B := Lib.hid (B0.out.trans (B1.mono B0.out.size))
      replace hJ := Lib.hid hJ
      clear hs0 hIo hown1 hg1 B1 B0
      obtain ⟨q0, q1⟩ := hq.out.qc
      go_wp2_with (first
        | (go_at_call 23; (with_reducible refine ((hT.out _ _ _ hJ.out).1).mono ?_); rintro _ w2 ⟨x1, z1, rfl, hx1, hb⟩; replace hI := Lib.hid (hI.out.next hb); replace hJ := Lib.hid (hJ.out.next hb); replace hP := Lib.hid (hP.out.next hb); replace hq := Lib.hid (hq.out.ext hb); replace hx1 := Lib.hid hx1; replace B := Lib.hid (B.out.trans (hb.mono B.out.size)); clear q0 q1 hb; obtain ⟨q0, q1⟩ := hq.out.qc)
        | (go_at_call 24; (with_reducible refine ((hT.out _ _ _ hI.out).2).mono ?_); rintro _ w3 ⟨y1, u1, rfl, hy1, hb⟩; replace hI := Lib.hid (hI.out.next hb); replace hJ := Lib.hid (hJ.out.next hb); replace hP := Lib.hid (hP.out.next hb); replace hq := Lib.hid (hq.out.ext hb); replace hx1 := Lib.hid (hx1.out.next hb); replace hy1 := Lib.hid hy1; replace B := Lib.hid (B.out.trans (hb.mono B.out.size)); clear q0 q1 hb; obtain ⟨q0, q1⟩ := hq.out.qc)
        | (go_at_call 18; (with_reducible refine (s1.out x1 y1 z1 u1 _ hx1.out hy1.out).mono ?_); rintro _ w4 ⟨rfl, hb⟩; replace hI := Lib.hid (hI.out.next hb); replace hJ := Lib.hid (hJ.out.next hb); replace hP := Lib.hid (hP.out.next hb); replace hq := Lib.hid (hq.out.ext hb); clear hx1 hy1; replace B := Lib.hid (B.out.trans (hb.mono B.out.size)); clear q0 q1 hb; obtain ⟨q0, q1⟩ := hq.out.qc)
        | (go_at_call 25; (with_reducible refine ((hTs.out _ _ _ _ _ hJ.out hP.out).1).mono ?_); rintro _ w5 ⟨x2, z2, rfl, hx2, hb⟩; replace hI := Lib.hid (hI.out.next hb); replace hJ := Lib.hid (hJ.out.next hb); replace hP := Lib.hid (hP.out.next hb); replace hq := Lib.hid (hq.out.ext hb); replace hx2 := Lib.hid hx2; replace B := Lib.hid (B.out.trans (hb.mono B.out.size)); clear q0 q1 hb; obtain ⟨q0, q1⟩ := hq.out.qc)
        | (go_at_call 26; (with_reducible refine ((hTs.out _ _ _ _ _ hI.out hP.out).2).mono ?_); rintro _ w6 ⟨y2, u2, rfl, hy2, hb⟩; replace hI := Lib.hid (hI.out.next hb); replace hJ := Lib.hid (hJ.out.next hb); replace hP := Lib.hid (hP.out.next hb); replace hq := Lib.hid (hq.out.ext hb); replace hx2 := Lib.hid (hx2.out.next hb); replace hy2 := Lib.hid hy2; replace B := Lib.hid (B.out.trans (hb.mono B.out.size)); clear q0 q1 hb; obtain ⟨q0, q1⟩ := hq.out.qc)
        | (go_at_call 18; (with_reducible refine (s2.out x2 y2 z2 u2 _ hx2.out hy2.out).mono ?_); rintro _ w7 ⟨rfl, hb⟩; replace hI := Lib.hid (hI.out.next hb); replace hJ := Lib.hid (hJ.out.next hb); replace hP := Lib.hid (hP.out.next hb); replace hq := Lib.hid (hq.out.ext hb); clear hx2 hy2; replace B := Lib.hid (B.out.trans (hb.mono B.out.size)); clear q0 q1 hb; obtain ⟨q0, q1⟩ := hq.out.qc)
        | (go_at_call 18; (with_reducible refine (s3.out ao ad co c _ hJ.out hI.out).mono ?_); rintro _ w8 ⟨rfl, hb⟩; replace hI := Lib.hid (hI.out.next hb); replace hJ := Lib.hid (hJ.out.next hb); replace hP := Lib.hid (hP.out.next hb); replace hq := Lib.hid (hq.out.ext hb); replace B := Lib.hid (B.out.trans (hb.mono B.out.size)); clear q0 q1 hb; obtain ⟨q0, q1⟩ := hq.out.qc)
        | (go_at_call 15; refine (alive_any _).mono ?_; rintro _ w9 ⟨rfl, hw9⟩))
      go_ret
      exact ⟨rfl, B.out.trans (hw9.mono B.out.size)⟩
end Go.Proofs.Ytniknldeafmgaaa
