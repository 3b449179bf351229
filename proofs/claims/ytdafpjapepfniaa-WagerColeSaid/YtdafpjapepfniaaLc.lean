/- Layer 7, the laws: WagerCole. -/
import Derived.Test.YtdafpjapepfniaaWy
namespace Go.Proofs.Ytdafpjapepfniaa
set_option linter.unusedSimpArgs false
set_option linter.unusedVariables false
open Go Go.RowKit

theorem ones_stop : ∀ l : List Nat, ones l + 1 < l.length → l.getD (ones l) 0 ≠ 1
  | [], h => by simp at h
  | [_], h => by simp [ones] at h
  | q :: p :: l, h => by
    rw [ones] at h ⊢
    by_cases e : q = 1
    · rw [if_pos e] at h ⊢
      have := ones_stop (p :: l) (by simpa using h)
      rw [List.getD_cons_succ]
      exact this
    · rw [if_neg e]
      simpa using e
theorem eucR_zero {a b : Nat} (h : min a b = 0) : eucV a b = twoV 0 0 10 := by
  unfold eucV eucR
  rw [if_pos h]
theorem eucV_is (a b : Nat) (h : 0 < min a b) : ∃ x y : Int, eucV a b = twoV x y (if hc (qs (max a b) (min a b)) then 0 else 10) := by
  have hi := eucO_iff h (show min a b ≤ max a b by omega)
  rw [← hi]
  unfold eucV eucR
  rw [if_neg (by omega)]
  cases eucO (max a b) (min a b) with
  | none => exact ⟨0, 0, rfl⟩
  | some k => exact ⟨_, _, rfl⟩
theorem gold_dec {x y : Nat} (h1 : 0 < y) (h2 : y < x) : hc (qs x y) = decide (x * y + y * y < x * x) := by
  have := hc_gold x x y (Nat.le_refl _) h1 (by omega)
  rw [Bool.eq_iff_iff, this, decide_eq_true_eq]
  unfold Gold
  constructor
  · rintro (h | h)
    · omega
    · exact h
  · exact .inr
set_option maxRecDepth 100000 in
set_option maxHeartbeats 8000000 in
theorem cole_law (n0 l0 : Nat) (w : World) (h1 : n0 ≤ 18446744073709551615) (h2 : l0 ≤ 18446744073709551615) :
    Calls Try.prog 11 #[.int .u64 (n0 : Int), .int .u64 (l0 : Int)] w (Ret (.bool true) w) := by
  have A1 := Lib.hid (fun W => heap_any n0 W h1)
  have A2 := Lib.hid (fun W => heap_any l0 W h2)
  have ha := hpN_le n0
  have hb := hpN_le l0
  generalize hpN n0 = a at *
  generalize hpN l0 = b at *
  have AL := Lib.hid alive_any
  have E := fun W => Euclid_yes a b W ha hb
  have S := fun W => Steps_yes a b W ha hb
  by_cases h0 : min a b = 0
  · rw [eucR_zero h0] at E
    rw [h0, qs_zero] at S
    unfold GotI at S
    rw [nI_length] at S
    replace E := Lib.hid E
    replace S := Lib.hid S
    by_cases ha0 : a = 0
    · subst ha0
      go_enter Try.func11, Try.ntmps11
      go_wp2_with (first
        | (go_at_call 38; (with_reducible refine (A1.out _).mono ?_); rintro e w1 ⟨rfl, rfl⟩)
        | (go_at_call 38; (with_reducible refine (A2.out _).mono ?_); rintro e w1 ⟨rfl, rfl⟩)
        | (go_at_call 24; refine (E.out _).mono ?_; rintro e w2 ⟨rfl, hb2⟩; replace hb2 := Lib.hid hb2)
        | (go_at_call 26; refine (S.out _).mono ?_; rintro e w3 ⟨v, c, rfl, hc, hI, hb3⟩; replace hb2 := Lib.hid (nextB hb2.out hb3); clear hI)
        | (go_at_call 23; refine (AL.out _).mono ?_; rintro e w6 ⟨rfl, hb6⟩))
      go_ret
      exact Ret.mk rfl (nextB hb2.out hb6)
    · have hb0 : b = 0 := by omega
      have ha1 : ((a : Int) == 0) = false := by rw [beq_eq_false_iff_ne]; omega
      subst hb0
      go_enter Try.func11, Try.ntmps11
      go_wp2_with (first
        | (go_at_call 38; (with_reducible refine (A1.out _).mono ?_); rintro e w1 ⟨rfl, rfl⟩)
        | (go_at_call 38; (with_reducible refine (A2.out _).mono ?_); rintro e w1 ⟨rfl, rfl⟩)
        | (go_at_call 24; refine (E.out _).mono ?_; rintro e w2 ⟨rfl, hb2⟩; replace hb2 := Lib.hid hb2)
        | (go_at_call 26; refine (S.out _).mono ?_; rintro e w3 ⟨v, c, rfl, hc, hI, hb3⟩; replace hb2 := Lib.hid (nextB hb2.out hb3); clear hI)
        | (go_at_call 23; refine (AL.out _).mono ?_; rintro e w6 ⟨rfl, hb6⟩))
      go_ret
      exact Ret.mk rfl (nextB hb2.out hb6)
  · have ha1 : ((a : Int) == 0) = false := by rw [beq_eq_false_iff_ne]; omega
    have hb1 : ((b : Int) == 0) = false := by rw [beq_eq_false_iff_ne]; omega
    obtain ⟨x, y, hE⟩ := eucV_is a b (by omega)
    rw [hE] at E
    clear hE
    obtain ⟨L, hL⟩ : ∃ L, L = qs (max a b) (min a b) := ⟨_, rfl⟩
    have hne : L ≠ [] := by rw [hL, qs_pos (by omega)]; simp
    have hlen : L.length ≤ 4611686018427387904 := by
      have := qs_len (min a b) (max a b) (min a b) (Nat.le_refl _)
      rw [hL]
      omega
    have hsame : a = b → hc L = true := fun e => by
      subst e
      rw [hL, Nat.max_self, Nat.min_self]
      exact hc_same (by omega)
    have hgold : a ≠ b → hc L = decide (max a b * min a b + min a b * min a b < max a b * max a b) := fun e => by
      rw [hL]
      exact gold_dec (by omega) (by omega)
    have BY := fun W => beyond_any (max a b) (min a b) W (by omega) (by omega)
    rw [← hL] at E S
    clear hL
    have ho1 := ones_lt L hne
    have ho2 := Lib.hid (ones_at L)
    have ho3 := Lib.hid (ones_stop L)
    have ho4 := hc_ones L hne
    have hnth : Hid (∀ i, i < L.length → nth (nI L) i = ((L.getD i 0 : Nat) : Int)) := Lib.hid (fun i hi => nI_nth hi)
    have hnn := nI_length L
    have hX : ∃ X : Nat, X = max a b := ⟨_, rfl⟩
    have hY : ∃ Y : Nat, Y = min a b := ⟨_, rfl⟩
    obtain ⟨X, hX⟩ := hX
    obtain ⟨Y, hY⟩ := hY
    have e1 : max (a : Int) (b : Int) = (X : Int) := by omega
    have e2 : min (a : Int) (b : Int) = (Y : Int) := by omega
    rw [← hX, ← hY] at BY hgold
    clear hX hY
    unfold GotI at S
    rw [hnn] at S
    replace S := Lib.hid S
    have hpos : 0 < L.length := by omega
    have hn1 : ((L.length : Int) == 0) = false := by rw [beq_eq_false_iff_ne]; omega
    by_cases hab : a = b
    · have hh := hsame hab
      rw [hh] at E ho4
      rw [if_pos rfl] at E
      replace E := Lib.hid E
      subst hab
      clear hsame hgold BY
      generalize hnl : L.length = n at *
      generalize hol : ones L = o at *
      have hev : ((o : Int) % 2 == 0) = true := by rw [even_i]; exact ho4.symm
      clear ho4
      go_enter Try.func11, Try.ntmps11
      go_wp2_with (first
        | (go_at_call 38; (with_reducible refine (A1.out _).mono ?_); rintro e w1 ⟨rfl, rfl⟩)
        | (go_at_call 38; (with_reducible refine (A2.out _).mono ?_); rintro e w1 ⟨rfl, rfl⟩)
        | (go_at_call 24; refine (E.out _).mono ?_; rintro e w2 ⟨rfl, hb2⟩; replace hb2 := Lib.hid hb2)
        | (go_at_call 26; refine (S.out _).mono ?_; rintro e w3 ⟨v, c, rfl, hc, hI, hb3⟩; replace hb2 := Lib.hid (nextB hb2.out hb3); replace hI := Lib.hid hI)
        | (go_at_call 40; (with_reducible refine (BY.out _).mono ?_); rintro e w4 ⟨rfl, rfl⟩))
      rcases hI.out with hI0 | ⟨bb, off, rfl, hI2⟩
      · omega
      replace hI2 : ∀ i, i < n → w3.cell? ⟨bb, off + i, none⟩ = some (.int .i64 ((L.getD i 0 : Nat) : Int)) := fun i hi => by rw [hI2 i (by omega), hnth.out i hi]
      clear hI hnth
      go_loopw [13] (fun i wr => ∃ k : Nat, k ≤ o ∧ i = .int .i64 k ∧ (∀ j, j < n → wr.cell? ⟨bb, off + j, none⟩ = some (.int .i64 ((L.getD j 0 : Nat) : Int))) ∧ Below w.heap.size w wr) (fun i _ => n - (intOf i).toNat)
      case atStart => exact ⟨0, by omega, rfl, hI2, hb2.out⟩
      case round =>
        clear hI2 hb2
        obtain ⟨k, hk, rfl, hcl, hbl⟩ := hrel
        by_cases hlt : k < o
        · have hx := hcl k (by omega)
          rw [ho2.out k hlt] at hx
          replace hcl := Lib.hid hcl
          have hlt' : (k : Int) < (n : Int) - 1 := by omega
          have hlt2 : (k : Int) < (n : Int) := by omega
          go_wp2
          go_roundw
          case rel => exact ⟨k + 1, by omega, by go_num, hcl.out, hbl⟩
          case measure => simp [intOf]; omega
        · obtain rfl : k = o := by omega
          replace hbl := Lib.hid hbl
          by_cases hend : k + 1 < n
          · have hlt' : (k : Int) < (n : Int) - 1 := by omega
            have hlt2 : (k : Int) < (n : Int) := by omega
            have hx := hcl k (by omega)
            have hx1 := ho3.out hend
            clear hcl
            generalize L.getD k 0 = q at *
            have hx2 : ((q : Int) == 1) = false := by rw [beq_eq_false_iff_ne]; omega
            go_wp2_with (first
              | (go_at_call 23; refine (AL.out _).mono ?_; rintro e w6 ⟨rfl, hb6⟩))
            go_ret
            exact Ret.mk rfl (nextB hbl.out hb6)
          · have hlt' : (n : Int) - 1 ≤ (k : Int) := by omega
            go_wp2_with (first
              | (go_at_call 23; refine (AL.out _).mono ?_; rintro e w6 ⟨rfl, hb6⟩))
            go_ret
            exact Ret.mk rfl (nextB hbl.out hb6)
    · have hab' : ((a : Int) == (b : Int)) = false := by rw [beq_eq_false_iff_ne]; omega
      have hg := hgold hab
      cases hh : hc L
      · have hd := hg.symm.trans hh
        clear hg
        rw [hh] at E ho4
        rw [if_neg (by simp)] at E
        replace E := Lib.hid E
        rw [hd] at BY
        replace BY := Lib.hid BY
        clear hsame hgold hd hh
        generalize hnl : L.length = n at *
        generalize hol : ones L = o at *
        have hev : ((o : Int) % 2 == 0) = false := by rw [even_i]; exact ho4.symm
        clear ho4
        go_enter Try.func11, Try.ntmps11
        go_wp2_with (first
          | (go_at_call 38; (with_reducible refine (A1.out _).mono ?_); rintro e w1 ⟨rfl, rfl⟩)
          | (go_at_call 38; (with_reducible refine (A2.out _).mono ?_); rintro e w1 ⟨rfl, rfl⟩)
          | (go_at_call 24; refine (E.out _).mono ?_; rintro e w2 ⟨rfl, hb2⟩; replace hb2 := Lib.hid hb2)
          | (go_at_call 26; refine (S.out _).mono ?_; rintro e w3 ⟨v, c, rfl, hc, hI, hb3⟩; replace hb2 := Lib.hid (nextB hb2.out hb3); replace hI := Lib.hid hI)
          | (go_at_call 40; (with_reducible refine (BY.out _).mono ?_); rintro e w4 ⟨rfl, rfl⟩))
        rcases hI.out with hI0 | ⟨bb, off, rfl, hI2⟩
        · omega
        replace hI2 : ∀ i, i < n → w3.cell? ⟨bb, off + i, none⟩ = some (.int .i64 ((L.getD i 0 : Nat) : Int)) := fun i hi => by rw [hI2 i (by omega), hnth.out i hi]
        clear hI hnth
        go_loopw [13] (fun i wr => ∃ k : Nat, k ≤ o ∧ i = .int .i64 k ∧ (∀ j, j < n → wr.cell? ⟨bb, off + j, none⟩ = some (.int .i64 ((L.getD j 0 : Nat) : Int))) ∧ Below w.heap.size w wr) (fun i _ => n - (intOf i).toNat)
        case atStart => exact ⟨0, by omega, rfl, hI2, hb2.out⟩
        case round =>
          clear hI2 hb2
          obtain ⟨k, hk, rfl, hcl, hbl⟩ := hrel
          by_cases hlt : k < o
          · have hx := hcl k (by omega)
            rw [ho2.out k hlt] at hx
            replace hcl := Lib.hid hcl
            have hlt' : (k : Int) < (n : Int) - 1 := by omega
            have hlt2 : (k : Int) < (n : Int) := by omega
            go_wp2
            go_roundw
            case rel => exact ⟨k + 1, by omega, by go_num, hcl.out, hbl⟩
            case measure => simp [intOf]; omega
          · obtain rfl : k = o := by omega
            replace hbl := Lib.hid hbl
            by_cases hend : k + 1 < n
            · have hlt' : (k : Int) < (n : Int) - 1 := by omega
              have hlt2 : (k : Int) < (n : Int) := by omega
              have hx := hcl k (by omega)
              have hx1 := ho3.out hend
              clear hcl
              generalize L.getD k 0 = q at *
              have hx2 : ((q : Int) == 1) = false := by rw [beq_eq_false_iff_ne]; omega
              go_wp2_with (first
                | (go_at_call 23; refine (AL.out _).mono ?_; rintro e w6 ⟨rfl, hb6⟩))
              go_ret
              exact Ret.mk rfl (nextB hbl.out hb6)
            · have hlt' : (n : Int) - 1 ≤ (k : Int) := by omega
              go_wp2_with (first
                | (go_at_call 23; refine (AL.out _).mono ?_; rintro e w6 ⟨rfl, hb6⟩))
              go_ret
              exact Ret.mk rfl (nextB hbl.out hb6)
      · have hd := hg.symm.trans hh
        clear hg
        rw [hh] at E ho4
        rw [if_pos rfl] at E
        replace E := Lib.hid E
        rw [hd] at BY
        replace BY := Lib.hid BY
        clear hsame hgold hd hh
        generalize hnl : L.length = n at *
        generalize hol : ones L = o at *
        have hev : ((o : Int) % 2 == 0) = true := by rw [even_i]; exact ho4.symm
        clear ho4
        go_enter Try.func11, Try.ntmps11
        go_wp2_with (first
          | (go_at_call 38; (with_reducible refine (A1.out _).mono ?_); rintro e w1 ⟨rfl, rfl⟩)
          | (go_at_call 38; (with_reducible refine (A2.out _).mono ?_); rintro e w1 ⟨rfl, rfl⟩)
          | (go_at_call 24; refine (E.out _).mono ?_; rintro e w2 ⟨rfl, hb2⟩; replace hb2 := Lib.hid hb2)
          | (go_at_call 26; refine (S.out _).mono ?_; rintro e w3 ⟨v, c, rfl, hc, hI, hb3⟩; replace hb2 := Lib.hid (nextB hb2.out hb3); replace hI := Lib.hid hI)
          | (go_at_call 40; (with_reducible refine (BY.out _).mono ?_); rintro e w4 ⟨rfl, rfl⟩))
        rcases hI.out with hI0 | ⟨bb, off, rfl, hI2⟩
        · omega
        replace hI2 : ∀ i, i < n → w3.cell? ⟨bb, off + i, none⟩ = some (.int .i64 ((L.getD i 0 : Nat) : Int)) := fun i hi => by rw [hI2 i (by omega), hnth.out i hi]
        clear hI hnth
        go_loopw [13] (fun i wr => ∃ k : Nat, k ≤ o ∧ i = .int .i64 k ∧ (∀ j, j < n → wr.cell? ⟨bb, off + j, none⟩ = some (.int .i64 ((L.getD j 0 : Nat) : Int))) ∧ Below w.heap.size w wr) (fun i _ => n - (intOf i).toNat)
        case atStart => exact ⟨0, by omega, rfl, hI2, hb2.out⟩
        case round =>
          clear hI2 hb2
          obtain ⟨k, hk, rfl, hcl, hbl⟩ := hrel
          by_cases hlt : k < o
          · have hx := hcl k (by omega)
            rw [ho2.out k hlt] at hx
            replace hcl := Lib.hid hcl
            have hlt' : (k : Int) < (n : Int) - 1 := by omega
            have hlt2 : (k : Int) < (n : Int) := by omega
            go_wp2
            go_roundw
            case rel => exact ⟨k + 1, by omega, by go_num, hcl.out, hbl⟩
            case measure => simp [intOf]; omega
          · obtain rfl : k = o := by omega
            replace hbl := Lib.hid hbl
            by_cases hend : k + 1 < n
            · have hlt' : (k : Int) < (n : Int) - 1 := by omega
              have hlt2 : (k : Int) < (n : Int) := by omega
              have hx := hcl k (by omega)
              have hx1 := ho3.out hend
              clear hcl
              generalize L.getD k 0 = q at *
              have hx2 : ((q : Int) == 1) = false := by rw [beq_eq_false_iff_ne]; omega
              go_wp2_with (first
                | (go_at_call 23; refine (AL.out _).mono ?_; rintro e w6 ⟨rfl, hb6⟩))
              go_ret
              exact Ret.mk rfl (nextB hbl.out hb6)
            · have hlt' : (n : Int) - 1 ≤ (k : Int) := by omega
              go_wp2_with (first
                | (go_at_call 23; refine (AL.out _).mono ?_; rintro e w6 ⟨rfl, hb6⟩))
              go_ret
              exact Ret.mk rfl (nextB hbl.out hb6)
end Go.Proofs.Ytdafpjapepfniaa
