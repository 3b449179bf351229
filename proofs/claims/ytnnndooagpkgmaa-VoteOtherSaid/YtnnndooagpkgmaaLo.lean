/- VoteOther: Other of Other is the rule; a set wins by Other exactly if all other drovers lose by the rule: the walk. -/
import Derived.Test.YtnnndooagpkgmaaWf
namespace Go.Proofs.Ytnnndooagpkgmaa
open Go Go.RowKit

/-- A list of n numbers was returned, without an error. -/
def GotN (n : Nat) (L : List Int) (w : World) (e : Ending) (w' : World) : Prop := ∃ a c, e = .returned (.tuple #[.slice a n c, .int .i64 0]) ∧ n ≤ c ∧ Ints w' a L ∧ Below w.heap.size w w'
theorem GotI.at {n : Nat} {L : List Int} {w w' : World} {e : Ending} (h : GotI L w e w') (hl : L.length = n) : GotN n L w e w' := by
  subst hl; exact h
set_option maxRecDepth 100000 in
set_option maxHeartbeats 4000000 in
theorem other_any (x : Int) (a : Option Addr) (m c : Nat) (R : List Int) (s : Nat) (w : World) (h : Ints w a R) (hl : R.length = m) (hmc : m ≤ c) (_hn : a = none → c = 0) (hs : s ≤ 255) :
    Calls Try.prog 14 #[.int .i64 x, .slice a m c, .int .u8 (s : Nat)] w (Ret (.bool true) w) := by
  by_cases h60 : 60 < m
  · have g1 : decide (60 < m) = true := decide_eq_true h60
    have g2 : decide (60 < (m : Int)) = true := decide_eq_true (by omega)
    clear hl
    go_enter Try.func14, Try.ntmps14
    go_wp2_with (go_at_call 16; refine (alive_any _).mono ?_; rintro e w1 ⟨rfl, hb1⟩)
    go_ret
    exact Ret.mk rfl hb1
  · have g1 : decide (60 < m) = false := decide_eq_false h60
    have g2 : decide (60 < (m : Int)) = false := decide_eq_false (by omega)
    have I := Lib.hid (fun W hW => refIsRule_any x a m c R W hW hl (by omega))
    by_cases hR : RuleI x R
    · rw [decide_eq_true hR] at I
      obtain ⟨n, rfl⟩ : ∃ n : Nat, x = n := ⟨x.toNat, by have := hR.1; omega⟩
      have hP : RuleP n R := by simpa using hR.2
      have h5 := hP.2.1
      have hp8 : pw n ≤ 256 := by have := pw_mono (show n ≤ 8 by omega); simpa [pw] using this
      have hp1 := pw_pos n
      have gm := game_rule hP
      have go := game_oth gm
      have hPo := rule_least go hP.1 h5
      have hlo : (lN (leastL (othF (hasOne R) n) (pw n))).length ≤ 256 := by rw [lN_length]; have := leastL_len (othF (hasOne R) n) (pw n); omega
      have hback : lN (leastL (othF (hasOne (lN (leastL (othF (hasOne R) n) (pw n)))) n) (pw n)) = R := by
        have e1 : leastL (othF (hasOne (lN (leastL (othF (hasOne R) n) (pw n)))) n) (pw n) = leastL (hasOne R) (pw n) := leastL_congr fun t ht => by
          rw [show othF (hasOne (lN (leastL (othF (hasOne R) n) (pw n)))) n t = !(hasOne (lN (leastL (othF (hasOne R) n) (pw n))) (pw n - 1 - t)) from rfl, hasOne_least go (by omega)]
          exact oth_oth ht
        rw [e1]
        exact least_rule hP
      have hwin : ∀ t, t < pw n → hasOne (lN (leastL (othF (hasOne R) n) (pw n))) t = !(hasOne R (pw n - 1 - t)) := fun t ht => by
        rw [hasOne_least go ht]; rfl
      have O1 := Lib.hid (fun W hW => (Other_yes a n c m R W hW hl (by omega) hmc hP).mono fun _ _ k => k.at (n := (lN (leastL (othF (hasOne R) n) (pw n))).length) rfl)
      have R2 := Lib.hid (fun t W hW (ht : t < pw n) => Rules_yes a n c W m t R hW hl (by omega) hmc hP ht)
      generalize lN (leastL (othF (hasOne R) n) (pw n)) = o at *
      have O2 := Lib.hid (fun r rc W hW (hrc : o.length ≤ rc) => Other_yes r n rc o.length o W hW rfl (by omega) hrc hPo)
      have R1 := Lib.hid (fun r rc t W hW (hrc : o.length ≤ rc) (ht : t < pw n) => Rules_yes r n rc W o.length t o hW rfl (by omega) hrc hPo ht)
      rw [hback] at O2
      replace O2 := Lib.hid (fun r rc W hW hrc => (O2.out r rc W hW hrc).mono fun _ _ k => k.at hl)
      have SM := Lib.hid (fun r rc W hW hW' => same_at r a m rc c R W hW hW' hl (by omega))
      have sh := wrap_shl (k := n) (by omega)
      replace hwin := Lib.hid hwin
      obtain ⟨ml, hml⟩ : ∃ ml, Hid (o.length = ml) := ⟨_, Lib.hid rfl⟩
      have hRl := Lib.hid hl
      rw [hml.out] at O1 O2 R1 hlo
      obtain ⟨N, hN⟩ : ∃ N, Hid (pw n = N) := ⟨_, Lib.hid rfl⟩
      rw [hN.out] at sh hp8 hp1 R1 R2 hwin
      have hmod : s % N < N := Nat.mod_lt _ hp1
      have m1 : (s : Int) % (N : Int) = ((s % N : Nat) : Int) := (Int.natCast_emod _ _).symm
      obtain ⟨t, ht⟩ : ∃ t, Hid (s % N = t) := ⟨_, Lib.hid rfl⟩
      rw [ht.out] at hmod m1
      have hsub : ((N : Int) - 1 - (t : Int)) = ((N - 1 - t : Nat) : Int) := by omega
      have hwt := hwin.out t hmod
      have R1t := Lib.hid (fun r rc W hW hrc => R1.out r rc t W hW hrc hmod)
      have R2t := Lib.hid (fun W hW => R2.out (N - 1 - t) W hW (by omega))
      obtain ⟨u, hu⟩ : ∃ u, Hid (N - 1 - t = u) := ⟨_, Lib.hid rfl⟩
      rw [hu.out] at hsub hwt R2t
      replace h := Lib.hid h
      clear hback hl hPo go gm hP hR
      cases gy : hasOne R u
      all_goals
        rw [gy] at hwt R2t
        rw [hwt] at R1t
        replace hwt := Lib.hid hwt
        replace gy := Lib.hid gy
        go_enter Try.func14, Try.ntmps14
        go_wp2_with (first
          | (go_at_call 40; refine (I.out _ h.out).mono ?_; rintro e w1 ⟨rfl, hb1⟩)
          | (go_at_call 32; (with_reducible refine (O1.out _ (h.out.next hb1)).mono ?_); rintro e w2 ⟨r, rc, rfl, hrc, hI, hb2⟩; replace hI := Lib.hid hI)
          | (go_at_call 32; (with_reducible refine (O2.out _ _ _ hI.out hrc).mono ?_); rintro e w3 ⟨r', rc', rfl, hrc', hI', hb3⟩; replace hI' := Lib.hid hI')
          | (go_at_call 30; (with_reducible refine (R1t.out _ _ _ (hI.out.next hb3) hrc).mono ?_); rintro e w4 ⟨rfl, hb4⟩)
          | (go_at_call 30; (with_reducible refine (R2t.out _ (h.out.next (nextB hb1 (nextB hb2 (nextB hb3 hb4))))).mono ?_); rintro e w5 ⟨rfl, hb5⟩)
          | (go_at_call 21; (with_reducible refine (SM.out _ _ _ (hI'.out.next (nextB hb4 hb5)) (h.out.next (nextB hb1 (nextB hb2 (nextB hb3 (nextB hb4 hb5)))))).mono ?_); rintro e w6 ⟨rfl, hb6⟩)
          | (go_at_call 16; refine (alive_any _).mono ?_; rintro e w7 ⟨rfl, hb7⟩))
        go_ret
        exact Ret.mk rfl (nextB hb1 (nextB hb2 (nextB hb3 (nextB hb4 (nextB hb5 (nextB hb6 hb7))))))
    · rw [decide_eq_false hR] at I
      replace h := Lib.hid h
      clear hl hR
      go_enter Try.func14, Try.ntmps14
      go_wp2_with (first
        | (go_at_call 40; refine (I.out _ h.out).mono ?_; rintro e w1 ⟨rfl, hb1⟩)
        | (go_at_call 16; refine (alive_any _).mono ?_; rintro e w2 ⟨rfl, hb2⟩))
      go_ret
      exact Ret.mk rfl (nextB hb1 hb2)
end Go.Proofs.Ytnnndooagpkgmaa
