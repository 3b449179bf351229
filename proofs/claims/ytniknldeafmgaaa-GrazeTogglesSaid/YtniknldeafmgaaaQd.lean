/- Layer 8, the specification: Day, Back, Days. -/
import Derived.Test.YtniknldeafmgaaaQc
namespace Go.Proofs.Ytniknldeafmgaaa
set_option linter.unusedSimpArgs false
set_option linter.unusedVariables false
open Go Go.RowKit

theorem refDay_no (a b : Int) (xs : List Int) (ad : Option Addr) (n c : Nat) (w : World) (hI : Ints w ad xs) (hl : xs.length = n) (hn : n ≤ 4611686018427387904) (h : ¬ StP a b xs) :
    Calls Try.prog 17 #[.int .i64 a, .int .i64 b, .slice ad n c] w (ErrL 2 w) := by
  have hA := asked_no a b xs ad n c w hI hl hn h
  clear hI hl h hn
  go_enter Try.func17, Try.ntmps17
  go_wp2_with (go_at_call 48; refine hA.mono ?_; rintro _ w1 ⟨rfl, hw1⟩)
  go_ret2
  exact Ret.mk rfl hw1
theorem refBack_no (a b : Int) (xs : List Int) (ad : Option Addr) (n c : Nat) (w : World) (hI : Ints w ad xs) (hl : xs.length = n) (hn : n ≤ 4611686018427387904) (h : ¬ StP a b xs) :
    Calls Try.prog 20 #[.int .i64 a, .int .i64 b, .slice ad n c] w (ErrL 2 w) := by
  have hA := asked_no a b xs ad n c w hI hl hn h
  clear hI hl h hn
  go_enter Try.func20, Try.ntmps20
  go_wp2_with (go_at_call 48; refine hA.mono ?_; rintro _ w1 ⟨rfl, hw1⟩)
  go_ret2
  exact Ret.mk rfl hw1
theorem refDays_no (a b : Int) (xs : List Int) (days : Int) (ad : Option Addr) (n c : Nat) (w : World) (hI : Ints w ad xs) (hl : xs.length = n) (hn : n ≤ 4611686018427387904) (h : ¬ StP a b xs) :
    Calls Try.prog 22 #[.int .i64 a, .int .i64 b, .slice ad n c, .int .i64 days] w (ErrL 2 w) := by
  have hA := asked_no a b xs ad n c w hI hl hn h
  clear hI hl h hn
  go_enter Try.func22, Try.ntmps22
  go_wp2_with (go_at_call 48; refine hA.mono ?_; rintro _ w1 ⟨rfl, hw1⟩)
  go_ret2
  exact Ret.mk rfl hw1
theorem refDay_yes (a b : Nat) (g : Nat → Nat) (ad : Option Addr) (c : Nat) (w : World) (h : IsS a b g) (hI : Ints w ad (stL a g)) :
    Calls Try.prog 17 #[.int .i64 (a : Int), .int .i64 (b : Int), .slice ad a c] w (GotS a (dayF a b g) w) := by
  have hA := asked_yes a b g ad c w h hI
  have hD := Lib.hid (fun w hI => refDay_any a b g ad c w h hI)
  replace hI := Lib.hid hI
  clear h
  go_enter Try.func17, Try.ntmps17
  go_wp2_with (first
    | (go_at_call 48; refine hA.mono ?_; rintro _ w1 ⟨rfl, hw1⟩; replace hI := Lib.hid (hI.out.next hw1))
    | (go_at_call 49; refine (hD.out _ hI.out).mono ?_; rintro _ w2 ⟨G, rfl, hI2, hw2⟩))
  go_ret2
  exact ⟨_, _, rfl, hI2, nextB hw1 hw2⟩
theorem tmod_emod (x : Int) (n : Nat) (h : 0 < n) : -(n : Int) < x.tmod (n : Int) ∧ x.tmod (n : Int) < (n : Int) ∧ (0 ≤ x.tmod (n : Int) → x.tmod (n : Int) = x % (n : Int)) ∧ (x.tmod (n : Int) < 0 → x.tmod (n : Int) + (n : Int) = x % (n : Int)) := by
  have h1 := Int.natAbs_tmod x (n : Int)
  have h3 : x.natAbs % n < n := Nat.mod_lt _ h
  rw [Int.natAbs_natCast] at h1
  have h4 := Int.tmod_def x (n : Int)
  refine ⟨by omega, by omega, fun h0 => ?_, fun h0 => ?_⟩
  · have e : x % (n : Int) = (x.tmod (n : Int)) % (n : Int) := by
      rw [h4, show x - (n : Int) * x.tdiv (n : Int) = x + (n : Int) * (- x.tdiv (n : Int)) by rw [Int.mul_neg]; omega, Int.add_mul_emod_self_left]
    rw [e, Int.emod_eq_of_lt h0 (by omega)]
  · have e : x % (n : Int) = (x.tmod (n : Int) + (n : Int)) % (n : Int) := by
      rw [Int.add_emod_right, h4, show x - (n : Int) * x.tdiv (n : Int) = x + (n : Int) * (- x.tdiv (n : Int)) by rw [Int.mul_neg]; omega, Int.add_mul_emod_self_left]
    rw [e, Int.emod_eq_of_lt (by omega) (by omega)]
theorem within_any (a b : Nat) (days : Int) (w : World) (ha : 1 ≤ a ∧ a ≤ 6) (hb : 1 ≤ b ∧ b ≤ 6) :
    Calls Try.prog 55 #[.int .i64 (a : Int), .int .i64 (b : Int), .int .i64 days] w (Only (.int .i64 ((dmod a b days : Nat) : Int)) w) := by
  obtain ⟨h1, h2, h3, h4⟩ := tmod_emod days (a + b) (by omega)
  have e : ((a + b : Nat) : Int) = (a : Int) + (b : Int) := by omega
  have hd := dmod_cast (b := b) ha.1 days
  have hlt := dmod_lt (b := b) ha.1 days
  rw [e] at h1 h2 h3 h4 hd
  generalize hx : days.tmod ((a : Int) + (b : Int)) = x at *
  have hz : ¬ ((a : Int) + (b : Int) = 0) := by omega
  obtain ⟨ha1, ha6⟩ := ha
  obtain ⟨hb1, hb6⟩ := hb
  by_cases c : x < 0
  · have e2 := Lib.hid (h4 c)
    replace hd := Lib.hid hd
    clear h3 h4 e
    go_enter Try.func55, Try.ntmps55
    go_wp2
    go_ret
    exact Only.mk (congrArg (Value.int .i64) (by have := e2.out; have := hd.out; omega))
  · have c' : 0 ≤ x := by omega
    have e2 := Lib.hid (h3 c')
    replace hd := Lib.hid hd
    clear h3 h4 e
    go_enter Try.func55, Try.ntmps55
    go_wp2
    go_ret
    exact Only.mk (congrArg (Value.int .i64) (by have := e2.out; have := hd.out; omega))
set_option maxRecDepth 100000 in
theorem refAfter_any (a b d : Nat) (g : Nat → Nat) (ad : Option Addr) (c : Nat) (w : World) (hs : IsS a b g) (hI : Ints w ad (stL a g)) (hd : d ≤ 1000) :
    Calls Try.prog 54 #[.int .i64 (a : Int), .int .i64 (b : Int), .slice ad a c, .int .i64 (d : Int)] w (fun e w' => ∃ ad' c', e = .returned (.slice ad' a c') ∧ Ints w' ad' (stL a (dayI a b g d)) ∧ Below w.heap.size w w') := by
  have ha1 := hs.p.a1
  have ha6 := hs.p.a6
  have hs0 := Lib.hid (World.ownsRow_lit (base := w.heap.size) (e := 3) (size := 1) w #[] 0 (Nat.le_refl _) (by unfold maxLen; omega) rfl)
  have hI1 := Lib.hid (hI.next (b1 w (.cells #[] 3)))
  have hl := Lib.hid (stL_len a g)
  obtain ⟨B0, off, rfl, _⟩ := ints_at hI (by rw [stL_len]; omega)
  have hD := Lib.hid (fun k ad c w hI => refDay_any a b (dayI a b g k) ad c w (dayI_S hs k) hI)
  have hg0 : Hid (dayI a b g 0 = g) := Lib.hid rfl
  clear hI hs
  go_enter Try.func54, Try.ntmps54
  go_wp2_with (at_builtin; refine wpList_copy rfl _ _ rfl w.heap.size _ rfl hs0.out _ a c (stL a g) rfl hI1.out hl.out (by simp) (by omega) (by simp) ?_; intro a' c' w' hown' hg' hc' hI')
  have B := (b1 w (.cells #[] 3)).grown hg' (by simp) (fun q hq => by have := (hs0.out.lt q hq).1; omega)
  go_loopw [9, 10] (fun v i wr => ∃ k : Nat, ∃ av cv, k ≤ d ∧ i = .int .i64 (k : Int) ∧ v = .slice av a cv ∧ Ints wr av (stL a (dayI a b g k)) ∧ Below w.heap.size w wr) (fun _ i _ => d - (intOf i).toNat)
  case atStart => exact ⟨0, a', c', by omega, rfl, rfl, by rw [hg0.out]; exact hI', B⟩
  case round =>
    clear hI' B
    obtain ⟨k, av, cv, hk, rfl, rfl, hIv, B⟩ := hrel
    replace hIv := Lib.hid hIv
    by_cases hkd : k < d
    · have hkd' : (k : Int) < (d : Int) := by omega
      have hDk := Lib.hid (hD.out k av cv wr hIv.out)
      have hnx : Hid (dayF a b (dayI a b g k) = dayI a b g (k + 1)) := Lib.hid rfl
      go_wp2_with (go_at_call 49; refine hDk.out.mono ?_; rintro _ w2 ⟨G, rfl, hI2, hw2⟩)
      go_roundw
      case rel => exact ⟨k + 1, _, _, by omega, by go_num, rfl, by rw [← hnx.out]; exact hI2, nextB B hw2⟩
      case measure => simp [intOf]; omega
    · obtain rfl : k = d := by omega
      go_wp2
      go_ret
      exact ⟨av, cv, rfl, hIv.out, B⟩
theorem refDays_yes (a b : Nat) (g : Nat → Nat) (days : Int) (ad : Option Addr) (c : Nat) (w : World) (h : IsS a b g) (hI : Ints w ad (stL a g)) :
    Calls Try.prog 22 #[.int .i64 (a : Int), .int .i64 (b : Int), .slice ad a c, .int .i64 days] w (GotS a (dayI a b g (dmod a b days)) w) := by
  have hA := asked_yes a b g ad c w h hI
  have hlt := dmod_lt (b := b) h.p.a1 days
  have hlt2 : dmod a b days ≤ 1000 := by have := h.p.a6; have := h.p.b6; omega
  have hW := Lib.hid (fun w => within_any a b days w ⟨h.p.a1, h.p.a6⟩ ⟨h.p.b1, h.p.b6⟩)
  have hD := Lib.hid (fun w hI => refAfter_any a b (dmod a b days) g ad c w h hI hlt2)
  replace hI := Lib.hid hI
  generalize dmod a b days = d at *
  clear h
  go_enter Try.func22, Try.ntmps22
  go_wp2_with (first
    | (go_at_call 48; refine hA.mono ?_; rintro _ w1 ⟨rfl, hw1⟩; replace hI := Lib.hid (hI.out.next hw1))
    | (go_at_call 55; (with_reducible refine (hW.out _).mono ?_); rintro _ _ ⟨rfl, rfl⟩)
    | (go_at_call 54; refine (hD.out _ hI.out).mono ?_; rintro _ w2 ⟨ad2, c2, rfl, hI2, hw2⟩))
  go_ret2
  exact ⟨_, _, rfl, hI2, nextB hw1 hw2⟩
theorem same_nil (c c' : Nat) (w : World) : Calls Try.prog 18 #[.slice none 0 c, .slice none 0 c'] w (Ret (.bool true) w) := by
  have := same_any none none 0 0 c c' [] [] w (.inl rfl) (.inl rfl) rfl rfl (by omega) (by omega)
  rwa [decide_eq_true rfl] at this
end Go.Proofs.Ytniknldeafmgaaa
