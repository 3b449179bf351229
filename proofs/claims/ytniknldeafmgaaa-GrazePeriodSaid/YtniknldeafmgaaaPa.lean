/- Layer 8, the law of a + b days. -/
import Derived.Test.YtniknldeafmgaaaJa
namespace Go.Proofs.Ytniknldeafmgaaa
set_option linter.unusedSimpArgs false
set_option linter.unusedVariables false
open Go Go.RowKit

set_option maxRecDepth 100000 in
set_option maxHeartbeats 4000000 in
theorem period_good (a b : Nat) (g : Nat → Nat) (ad : Option Addr) (c : Nat) (f s : Int) (w : World) (hs : IsS a b g) (hI : Ints w ad (stL a g)) (hf : -32768 ≤ f ∧ f ≤ 32767) (hs2 : -32768 ≤ s ∧ s ≤ 32767) :
    Calls Try.prog 9 #[.int .i64 (a : Int), .int .i64 (b : Int), .slice ad a c, .int .i16 f, .int .i16 s] w (Ret (.bool true) w) := by
  have ha1 := hs.p.a1
  have ha6 := hs.p.a6
  have hb1 := hs.p.b1
  have hb6 := hs.p.b6
  obtain ⟨T, hT⟩ := isT_ex hs
  have ht1 := hT.t1
  have htl := hT.tl
  have hper := hT.per hs
  have hG := good_yes a b g ad c w hs hI
  have hD0 := Lib.hid (fun ad c w (h : Ints w ad (stL a g)) => by have := Days_yes a b g ((a : Int) + (b : Int)) ad c w hs h; rw [dmod_all] at this; exact (this.mono fun _ _ k => k.gotS : Calls _ _ _ _ (GotS a g w)))
  have hR := Lib.hid (fun ad c w (h : Ints w ad (stL a g)) => (Round_yes a b T g ad c w hs hT h).mono fun _ _ k => k.got (by rw [itL_len]; omega))
  have hD1 := Lib.hid (fun g (hs : IsS a b g) ad c w (h : Ints w ad (stL a g)) => (Day_yes a b g ad c w hs h).mono fun _ _ k => k.gotS)
  have hB1 := Lib.hid (fun ad c w (h : Ints w ad (stL a (dayF a b g))) => by have := Back_yes a b (dayF a b g) ad c w (dayF_S hs) h; rw [back_day hs] at this; exact (this.mono fun _ _ k => k.gotS : Calls _ _ _ _ (GotS a g w)))
  have hDs := Lib.hid (fun g d (hs : IsS a b g) ad c w (h : Ints w ad (stL a g)) => (Days_yes a b g d ad c w hs h).mono fun _ _ k => k.gotS)
  have hadd := Lib.hid (days_add hs f s)
  have hln := Lib.hid (itL_len a b g T)
  have hat := Lib.hid (fun k (h : k < T) => itL_at a b g h)
  have hSk := Lib.hid (dayI_S hs)
  have hne := Lib.hid hT.ne
  have heq := Lib.hid hT.eq
  replace hs := Lib.hid hs
  replace hI := Lib.hid hI
  have hT0 : ((T : Int) == 0) = false := by rw [beq_eq_false_iff_ne]; omega
  have hd20 : decide ((20 : Int) < (a : Int)) = false := decide_eq_false (by omega)
  have hper' : ((a : Int) + (b : Int)) % (T : Int) = 0 := by
    rw [show (a : Int) + (b : Int) = ((a + b : Nat) : Int) by omega, ← Int.natCast_emod, hper]; rfl
  clear hT hper
  go_enter Try.func9, Try.ntmps9
  go_upto_region 7 with (first
    | (go_at_call 40; refine hG.mono ?_; rintro _ w1 ⟨rfl, hw1⟩; replace hI := Lib.hid (hI.out.next hw1); have B := Lib.hid hw1; clear hw1 hG)
    | (go_at_call 21; refine (hD0.out _ _ _ hI.out).mono ?_; rintro _ w2 ⟨a2, c2, rfl, hI2, hw2⟩; replace hI := Lib.hid (hI.out.next hw2); replace hI2 := Lib.hid hI2; replace B := Lib.hid (nextB B.out hw2); clear hw2)
    | (go_at_call 28; refine (hR.out _ _ _ hI.out).mono ?_; rintro _ w3 ⟨Br, cr, rfl, hr, hw3⟩; replace hI := Lib.hid (hI.out.next hw3); replace hI2 := Lib.hid (hI2.out.next hw3); replace hr := Lib.hid hr; replace B := Lib.hid (nextB B.out hw3); clear hw3; rw [hln.out])
    | (go_at_call 16; refine (hD1.out _ hs.out _ _ _ hI.out).mono ?_; rintro _ w4 ⟨a4, c4, rfl, hI4, hw4⟩; replace hI := Lib.hid (hI.out.next hw4); replace hI2 := Lib.hid (hI2.out.next hw4); replace hr := Lib.hid (hr.out.next hw4); replace hI4 := Lib.hid hI4; replace B := Lib.hid (nextB B.out hw4); clear hw4)
    | (go_at_call 19; refine (hB1.out _ _ _ hI4.out).mono ?_; rintro _ w5 ⟨a5, c5, rfl, hI5, hw5⟩; replace hI := Lib.hid (hI.out.next hw5); replace hI2 := Lib.hid (hI2.out.next hw5); replace hr := Lib.hid (hr.out.next hw5); replace hI5 := Lib.hid hI5; replace B := Lib.hid (nextB B.out hw5); clear hw5 hI4))
  obtain ⟨r0, cr0, hc0, hI0⟩ := hr.out 0 (by rw [hln.out]; omega)
  rw [hat.out 0 (by omega)] at hI0
  replace hI0 := Lib.hid hI0
  go_upto_region 9 with (first
    | (go_at_call 18; (with_reducible refine (same_eq a2 ad a c2 c g g _ ha6 hI2.out hI.out rfl).mono ?_); rintro _ w6 ⟨rfl, hw6⟩; replace hI := Lib.hid (hI.out.next hw6); replace hI5 := Lib.hid (hI5.out.next hw6); replace hI0 := Lib.hid (hI0.out.next hw6); replace hr := Lib.hid (hr.out.next hw6); replace B := Lib.hid (nextB B.out hw6); replace hc0 := cellB hw6 hc0; clear hw6 hI2)
    | (go_at_call 18; (with_reducible refine (same_eq a5 ad a c5 c g g _ ha6 hI5.out hI.out rfl).mono ?_); rintro _ w7 ⟨rfl, hw7⟩; replace hI := Lib.hid (hI.out.next hw7); replace hI0 := Lib.hid (hI0.out.next hw7); replace hr := Lib.hid (hr.out.next hw7); replace B := Lib.hid (nextB B.out hw7); replace hc0 := cellB hw7 hc0; clear hw7 hI5)
    | (go_at_call 18; (with_reducible refine (same_eq r0 ad a cr0 c (dayI a b g 0) g _ ha6 hI0.out hI.out rfl).mono ?_); rintro _ w8 ⟨rfl, hw8⟩; replace hI := Lib.hid (hI.out.next hw8); replace hr := Lib.hid (hr.out.next hw8); replace B := Lib.hid (nextB B.out hw8); clear hw8 hI0 hc0))
  go_wp2
  go_loopw [19, 20, 21] (fun i _ _ wr => ∃ k : Nat, k ≤ T ∧ i = .int .i64 (k : Int) ∧ RowsI wr Br a (itL a b g T) ∧ Ints wr ad (stL a g) ∧ Below w.heap.size w wr) (fun i _ _ _ => T - (intOf i).toNat)
  case atStart => exact ⟨0, by omega, rfl, hr.out, hI.out, B.out⟩
  case round =>
    clear hr hI B
    obtain ⟨k, hk, rfl, hr, hI, B⟩ := hrel
    replace hr := Lib.hid hr
    replace hI := Lib.hid hI
    replace B := Lib.hid B
    by_cases hlt : k < T
    · have hlt' : (k : Int) < (T : Int) := by omega
      obtain ⟨m0, m1, m2⟩ := mod_at1 k T (by omega)
      have mlt := Nat.mod_lt (k + 1) (show T > 0 by omega)
      obtain ⟨ri, ci, hci, hIi⟩ := hr.out k (by rw [hln.out]; exact hlt)
      obtain ⟨rj, cj, hcj, hIj⟩ := hr.out ((k + 1) % T) (by rw [hln.out]; exact mlt)
      rw [hat.out k hlt] at hIi
      rw [hat.out _ mlt] at hIj
      have hj : Hid (dayF a b (dayI a b g k) = dayI a b g ((k + 1) % T)) := Lib.hid (by
        by_cases e : k + 1 < T
        · rw [Nat.mod_eq_of_lt e]; rfl
        · have e2 : k + 1 = T := by omega
          rw [e2, Nat.mod_self]
          show dayF a b (dayI a b g k) = g
          have h3 := heq.out
          rw [← e2] at h3
          exact h3)
      have hS1 := Lib.hid (hSk.out k)
      have hk0 := Lib.hid (fun h => hne.out k h hlt)
      replace hIi := Lib.hid hIi
      replace hIj := Lib.hid hIj
      generalize (k + 1) % T = j at *
      generalize dayI a b g j = gj at *
      generalize dayI a b g k = gk at *
      by_cases h0 : 0 < k
      · have h0' : (0 : Int) < (k : Int) := by omega
        go_wp2_with (first
          | (go_at_call 16; refine (hD1.out gk hS1.out _ _ _ hIi.out).mono ?_; rintro _ w2 ⟨az, cz, rfl, hIz, hw2⟩; replace hI := Lib.hid (hI.out.next hw2); replace hIi := Lib.hid (hIi.out.next hw2); replace hIj := Lib.hid (hIj.out.next hw2); replace hIz := Lib.hid hIz; replace hr := Lib.hid (hr.out.next hw2); replace B := Lib.hid (nextB B.out hw2); replace hci := cellB hw2 hci; replace hcj := cellB hw2 hcj; clear hw2)
          | (go_at_call 18; (with_reducible refine (same_eq az rj a cz cj (dayF a b gk) gj _ ha6 hIz.out hIj.out hj.out).mono ?_); rintro _ w6 ⟨rfl, hw6⟩; replace hI := Lib.hid (hI.out.next hw6); replace hIi := Lib.hid (hIi.out.next hw6); replace hr := Lib.hid (hr.out.next hw6); replace B := Lib.hid (nextB B.out hw6); replace hci := cellB hw6 hci; clear hw6 hIj hcj)
          | (go_at_call 18; (with_reducible refine (same_ne ri ad a b ci c gk g _ hS1.out hs.out hIi.out hI.out (hk0.out h0)).mono ?_); rintro _ w7 ⟨rfl, hw7⟩; replace hI := Lib.hid (hI.out.next hw7); replace hr := Lib.hid (hr.out.next hw7); replace B := Lib.hid (nextB B.out hw7); clear hw7 hIi hci))
        go_roundw
        case rel => exact ⟨k + 1, by omega, by go_num, hr.out, hI.out, B.out⟩
        case measure => simp [intOf]; omega
      · have h0' : (k : Int) ≤ 0 := by omega
        go_wp2_with (first
          | (go_at_call 16; refine (hD1.out gk hS1.out _ _ _ hIi.out).mono ?_; rintro _ w2 ⟨az, cz, rfl, hIz, hw2⟩; replace hI := Lib.hid (hI.out.next hw2); replace hIj := Lib.hid (hIj.out.next hw2); replace hIz := Lib.hid hIz; replace hr := Lib.hid (hr.out.next hw2); replace B := Lib.hid (nextB B.out hw2); replace hcj := cellB hw2 hcj; clear hw2)
          | (go_at_call 18; (with_reducible refine (same_eq az rj a cz cj (dayF a b gk) gj _ ha6 hIz.out hIj.out hj.out).mono ?_); rintro _ w6 ⟨rfl, hw6⟩; replace hI := Lib.hid (hI.out.next hw6); replace hr := Lib.hid (hr.out.next hw6); replace B := Lib.hid (nextB B.out hw6); clear hw6 hIj hcj))
        go_roundw
        case rel => exact ⟨k + 1, by omega, by go_num, hr.out, hI.out, B.out⟩
        case measure => simp [intOf]; omega
    · have hlt' : (T : Int) ≤ (k : Int) := by omega
      clear hr hD0 hR hD1 hB1 hat heq hne hSk hln
      have hSf := Lib.hid (dayI_S hs.out (dmod a b f))
      have hq : Hid (dayI a b (dayI a b g (dmod a b f)) (dmod a b s) = dayI a b g (dmod a b (f + s))) := hadd
      have hDp := Lib.hid (hDs.out g f hs.out)
      have hDt := Lib.hid (hDs.out g (f + s) hs.out)
      generalize dayI a b g (dmod a b f) = gf at *
      have hDq := Lib.hid (hDs.out gf s hSf.out)
      clear hDs
      go_wp2_with (first
        | (go_at_call 21; (with_reducible refine (hDp.out _ _ _ hI.out).mono ?_); rintro _ w2 ⟨ap, cp, rfl, hIp, hw2⟩; replace hI := Lib.hid (hI.out.next hw2); replace hIp := Lib.hid hIp; replace B := Lib.hid (nextB B.out hw2); clear hw2)
        | (go_at_call 21; (with_reducible refine (hDq.out _ _ _ hIp.out).mono ?_); rintro _ w3 ⟨aq, cq, rfl, hIq, hw3⟩; replace hI := Lib.hid (hI.out.next hw3); replace hIq := Lib.hid hIq; replace B := Lib.hid (nextB B.out hw3); clear hw3 hIp)
        | (go_at_call 21; (with_reducible refine (hDt.out _ _ _ hI.out).mono ?_); rintro _ w4 ⟨at4, ct, rfl, hIt, hw4⟩; replace hIq := Lib.hid (hIq.out.next hw4); replace hIt := Lib.hid hIt; replace B := Lib.hid (nextB B.out hw4); clear hw4)
        | (go_at_call 18; (with_reducible refine (same_eq aq at4 a cq ct _ _ _ ha6 hIq.out hIt.out hq.out).mono ?_); rintro _ w6 ⟨rfl, hw6⟩; replace B := Lib.hid (nextB B.out hw6); clear hw6)
        | (go_at_call 15; refine (alive_any _).mono ?_; rintro _ w7 ⟨rfl, hw7⟩))
      go_ret
      exact Ret.mk rfl (nextB B.out hw7)
set_option maxRecDepth 100000 in
theorem period_law (a b : Int) (ad : Option Addr) (n c : Nat) (xs : List Int) (f s : Int) (w : World) (hI : Ints w ad xs) (hl : xs.length = n) (_hc : n ≤ c) (_hn : ad = none → c = 0) (hf : -32768 ≤ f ∧ f ≤ 32767) (hs : -32768 ≤ s ∧ s ≤ 32767) : Calls Try.prog 9 #[.int .i64 a, .int .i64 b, .slice ad n c, .int .i16 f, .int .i16 s] w (Ret (.bool true) w) := by
  clear _hc _hn
  by_cases hlen : 20 < n
  · have hlen' : (20 : Int) < (n : Int) := by omega
    clear hI hl
    go_enter Try.func9, Try.ntmps9
    go_wp2_with (go_at_call 15; refine (alive_any _).mono ?_; rintro _ w1 ⟨rfl, hw1⟩)
    go_ret
    exact Ret.mk rfl hw1
  · by_cases hS : StP a b xs
    · obtain ⟨A, B, rfl, rfl, hS2, hx⟩ := hS.parts
      clear hS
      generalize gX xs = g at *
      subst hx
      rw [stL_len] at hl
      subst hl
      exact period_good A B g ad c f s w hS2 hI hf hs
    · have hlen' : (n : Int) ≤ 20 := by omega
      have hG := good_no a b xs ad n c w hI hl (by omega) hS
      clear hI hl hS
      go_enter Try.func9, Try.ntmps9
      go_wp2_with (first | (go_at_call 40; refine hG.mono ?_; rintro _ w2 ⟨rfl, hw2⟩) | (go_at_call 15; refine (alive_any _).mono ?_; rintro _ w1 ⟨rfl, hw1⟩))
      go_ret
      exact Ret.mk rfl (nextB hw2 hw1)

end Go.Proofs.Ytniknldeafmgaaa
