/- Layer 8, the law of days, by the specification. -/
import Derived.Test.YtniknldeafmgaaaQd
namespace Go.Proofs.Ytniknldeafmgaaa
set_option linter.unusedSimpArgs false
set_option linter.unusedVariables false
open Go Go.RowKit

set_option maxRecDepth 100000 in
set_option maxHeartbeats 4000000 in
theorem days_law (a b : Int) (ad : Option Addr) (n c : Nat) (xs : List Int) (d : Int) (w : World) (hI : Ints w ad xs) (hl : xs.length = n) (hc : n ≤ c) (hn : ad = none → c = 0) :
    Calls Try.prog 3 #[.int .i64 a, .int .i64 b, .slice ad n c, .int .i64 d] w (Ret (.bool true) w) := by
  by_cases hlen : 20 < n
  · have hlen' : (20 : Int) < (n : Int) := by omega
    clear hI hl hn
    go_enter Try.func3, Try.ntmps3
    go_wp2_with (go_at_call 15; refine (alive_any _).mono ?_; rintro _ w1 ⟨rfl, hw1⟩)
    go_ret
    exact Ret.mk rfl hw1
  · have hlen' : (n : Int) ≤ 20 := by omega
    have hs0 := Lib.hid (World.ownsRow_lit (base := w.heap.size) (e := 3) (size := 1) w #[] 0 (Nat.le_refl _) (by unfold maxLen; omega) rfl)
    have hIo := Lib.hid (hI.next (b1 w (.cells #[] 3)))
    replace hI := Lib.hid hI
    replace hl := Lib.hid hl
    replace hn := Lib.hid hn
    go_enter Try.func3, Try.ntmps3
    go_upto_region 4 with (at_builtin; refine wpList_copy rfl _ _ rfl w.heap.size _ rfl hs0.out _ n c xs rfl hIo.out hl.out hn.out (by omega) (by simp) ?_; intro ao co w1 hown1 hg1 hco hJ)
    have B := (b1 w (.cells #[] 3)).grown hg1 (by simp) (fun q hq => by have := (hs0.out.lt q hq).1; omega)
    replace hI := Lib.hid (hI.out.next B)
    replace B := Lib.hid B
    replace hJ := Lib.hid hJ
    clear hs0 hIo hown1 hg1
    by_cases hS : StP a b xs
    · obtain ⟨A, A2, rfl, rfl, hS2, hx⟩ := hS.parts
      clear hS
      generalize gX xs = g at *
      subst hx
      have hlA := hl.out
      rw [stL_len] at hlA
      subst hlA
      have ha6 := hS2.p.a6
      have c1 := Lib.hid (fun ad c w h => (Day_yes A A2 g ad c w hS2 h).mono fun _ _ k => k.gotS)
      have c2 := Lib.hid (fun ad c w h => refDay_yes A A2 g ad c w hS2 h)
      have c3 := Lib.hid (fun ad c w h => (Back_yes A A2 g ad c w hS2 h).mono fun _ _ k => k.gotS)
      have c4 := Lib.hid (fun ad c w h => refBack_yes A A2 g ad c w hS2 h)
      have c5 := Lib.hid (fun ad c w h => (Days_yes A A2 g d ad c w hS2 h).mono fun _ _ k => k.gotS)
      have c6 := Lib.hid (fun ad c w h => refDays_yes A A2 g d ad c w hS2 h)
      generalize dayF A A2 g = g1 at *
      generalize bakF A A2 g = g2 at *
      generalize dayI A A2 g (dmod A A2 d) = g3 at *
      clear hS2 hl hn
      go_wp2_with (first
        | (go_at_call 16; (with_reducible refine (c1.out _ _ _ hJ.out).mono ?_); rintro _ w1a ⟨x1, z1, rfl, hx1, hb⟩; replace hI := Lib.hid (hI.out.next hb); replace hJ := Lib.hid (hJ.out.next hb); replace hx1 := Lib.hid hx1; replace B := Lib.hid (nextB B.out hb); clear hb)
        | (go_at_call 17; (with_reducible refine (c2.out _ _ _ hI.out).mono ?_); rintro _ w1b ⟨y1, u1, rfl, hy1, hb⟩; replace hI := Lib.hid (hI.out.next hb); replace hJ := Lib.hid (hJ.out.next hb); replace hx1 := Lib.hid (hx1.out.next hb); replace hy1 := Lib.hid hy1; replace B := Lib.hid (nextB B.out hb); clear hb)
        | (go_at_call 18; (with_reducible refine (same_eq x1 y1 A z1 u1 g1 g1 _ ha6 hx1.out hy1.out rfl).mono ?_); rintro _ w1c ⟨rfl, hb⟩; replace hI := Lib.hid (hI.out.next hb); replace hJ := Lib.hid (hJ.out.next hb); replace B := Lib.hid (nextB B.out hb); clear hb hx1 hy1)
        | (go_at_call 19; (with_reducible refine (c3.out _ _ _ hJ.out).mono ?_); rintro _ w2a ⟨x2, z2, rfl, hx2, hb⟩; replace hI := Lib.hid (hI.out.next hb); replace hJ := Lib.hid (hJ.out.next hb); replace hx2 := Lib.hid hx2; replace B := Lib.hid (nextB B.out hb); clear hb)
        | (go_at_call 20; (with_reducible refine (c4.out _ _ _ hI.out).mono ?_); rintro _ w2b ⟨y2, u2, rfl, hy2, hb⟩; replace hI := Lib.hid (hI.out.next hb); replace hJ := Lib.hid (hJ.out.next hb); replace hx2 := Lib.hid (hx2.out.next hb); replace hy2 := Lib.hid hy2; replace B := Lib.hid (nextB B.out hb); clear hb)
        | (go_at_call 18; (with_reducible refine (same_eq x2 y2 A z2 u2 g2 g2 _ ha6 hx2.out hy2.out rfl).mono ?_); rintro _ w2c ⟨rfl, hb⟩; replace hI := Lib.hid (hI.out.next hb); replace hJ := Lib.hid (hJ.out.next hb); replace B := Lib.hid (nextB B.out hb); clear hb hx2 hy2)
        | (go_at_call 21; (with_reducible refine (c5.out _ _ _ hJ.out).mono ?_); rintro _ w3a ⟨x3, z3, rfl, hx3, hb⟩; replace hI := Lib.hid (hI.out.next hb); replace hJ := Lib.hid (hJ.out.next hb); replace hx3 := Lib.hid hx3; replace B := Lib.hid (nextB B.out hb); clear hb)
        | (go_at_call 22; (with_reducible refine (c6.out _ _ _ hI.out).mono ?_); rintro _ w3b ⟨y3, u3, rfl, hy3, hb⟩; replace hI := Lib.hid (hI.out.next hb); replace hJ := Lib.hid (hJ.out.next hb); replace hx3 := Lib.hid (hx3.out.next hb); replace hy3 := Lib.hid hy3; replace B := Lib.hid (nextB B.out hb); clear hb)
        | (go_at_call 18; (with_reducible refine (same_eq x3 y3 A z3 u3 g3 g3 _ ha6 hx3.out hy3.out rfl).mono ?_); rintro _ w3c ⟨rfl, hb⟩; replace hI := Lib.hid (hI.out.next hb); replace hJ := Lib.hid (hJ.out.next hb); replace B := Lib.hid (nextB B.out hb); clear hb hx3 hy3)
        | (go_at_call 18; (with_reducible refine (same_eq ao ad A co c g g _ ha6 hJ.out hI.out rfl).mono ?_); rintro _ w8 ⟨rfl, hb⟩; replace B := Lib.hid (nextB B.out hb); clear hb)
        | (go_at_call 15; refine (alive_any _).mono ?_; rintro _ w9 ⟨rfl, hw9⟩))
      go_ret
      exact Ret.mk rfl (nextB B.out hw9)
    · have hl63 : n ≤ 4611686018427387904 := by omega
      have c1 := Lib.hid (fun ad c w h => Day_no a b xs ad n c w h hl.out hS)
      have c2 := Lib.hid (fun ad c w h => refDay_no a b xs ad n c w h hl.out hl63 hS)
      have c3 := Lib.hid (fun ad c w h => Back_no a b xs ad n c w h hl.out hS)
      have c4 := Lib.hid (fun ad c w h => refBack_no a b xs ad n c w h hl.out hl63 hS)
      have c5 := Lib.hid (fun ad c w h => Days_no a b xs d ad n c w h hl.out hS)
      have c6 := Lib.hid (fun ad c w h => refDays_no a b xs d ad n c w h hl.out hl63 hS)
      have c7 := Lib.hid (fun ad c ad' c' w h h' => by have := same_any ad ad' n n c c' xs xs w h h' hl.out hl.out hl63 hl63; rw [decide_eq_true rfl] at this; exact this)
      clear hS hn
      go_wp2_with (first
        | (go_at_call 16; (with_reducible refine (c1.out _ _ _ hJ.out).mono ?_); rintro _ w2 ⟨rfl, hb⟩; replace hI := Lib.hid (hI.out.next hb); replace hJ := Lib.hid (hJ.out.next hb); replace B := Lib.hid (nextB B.out hb); clear hb)
        | (go_at_call 17; (with_reducible refine (c2.out _ _ _ hI.out).mono ?_); rintro _ w2 ⟨rfl, hb⟩; replace hI := Lib.hid (hI.out.next hb); replace hJ := Lib.hid (hJ.out.next hb); replace B := Lib.hid (nextB B.out hb); clear hb)
        | (go_at_call 19; (with_reducible refine (c3.out _ _ _ hJ.out).mono ?_); rintro _ w2 ⟨rfl, hb⟩; replace hI := Lib.hid (hI.out.next hb); replace hJ := Lib.hid (hJ.out.next hb); replace B := Lib.hid (nextB B.out hb); clear hb)
        | (go_at_call 20; (with_reducible refine (c4.out _ _ _ hI.out).mono ?_); rintro _ w2 ⟨rfl, hb⟩; replace hI := Lib.hid (hI.out.next hb); replace hJ := Lib.hid (hJ.out.next hb); replace B := Lib.hid (nextB B.out hb); clear hb)
        | (go_at_call 21; (with_reducible refine (c5.out _ _ _ hJ.out).mono ?_); rintro _ w2 ⟨rfl, hb⟩; replace hI := Lib.hid (hI.out.next hb); replace hJ := Lib.hid (hJ.out.next hb); replace B := Lib.hid (nextB B.out hb); clear hb)
        | (go_at_call 22; (with_reducible refine (c6.out _ _ _ hI.out).mono ?_); rintro _ w2 ⟨rfl, hb⟩; replace hI := Lib.hid (hI.out.next hb); replace hJ := Lib.hid (hJ.out.next hb); replace B := Lib.hid (nextB B.out hb); clear hb)
        | (go_at_call 18; (with_reducible refine (same_nil _ _ _).mono ?_); rintro _ w2 ⟨rfl, hb⟩; replace hI := Lib.hid (hI.out.next hb); replace hJ := Lib.hid (hJ.out.next hb); replace B := Lib.hid (nextB B.out hb); clear hb)
        | (go_at_call 18; (with_reducible refine (c7.out _ _ _ _ _ hJ.out hI.out).mono ?_); rintro _ w8 ⟨rfl, hb⟩; replace B := Lib.hid (nextB B.out hb); clear hb)
        | (go_at_call 15; refine (alive_any _).mono ?_; rintro _ w9 ⟨rfl, hw9⟩))
      go_ret
      exact Ret.mk rfl (nextB B.out hw9)
end Go.Proofs.Ytniknldeafmgaaa
