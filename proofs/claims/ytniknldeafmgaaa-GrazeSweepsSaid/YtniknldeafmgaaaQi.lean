/- Layer 8, the specification: Of. -/
import Derived.Test.YtniknldeafmgaaaQb
import Derived.Test.YtniknldeafmgaaaPc
namespace Go.Proofs.Ytniknldeafmgaaa
set_option linter.unusedSimpArgs false
set_option linter.unusedVariables false
open Go Go.RowKit

theorem Blk.intsN {W : World} {G a : Nat} {g : Nat → Nat} (h : Blk W G 3 (cN g a)) : Ints W (some ⟨G, 0, none⟩) (stL a g) := by
  refine .inr ⟨G, 0, rfl, fun i hi => ?_⟩
  rw [stL_len] at hi
  rw [Nat.zero_add, stL_nth _ hi]
  exact h.c i (cN_get hi)
set_option maxRecDepth 100000 in
set_option maxHeartbeats 4000000 in
theorem refOf_core (a b : Nat) (s : ByteArray) (l : List UInt8) (w : World) (Q : Ending → World → Prop) (ha : 1 ≤ a ∧ a ≤ 6) (hb : 1 ≤ b ∧ b ≤ 6) (hl : s.data.toList = l) (hsz : s.size = a + b)
    (hQ1 : IsW a b l → Q = GotS a (ofF a l) w) (hQ2 : ¬ IsW a b l → Q = ErrL 5 w) :
    Calls Try.prog 37 #[.int .i64 (a : Int), .int .i64 (b : Int), .string s] w Q := by
  have hP : ∀ w, Calls Try.prog 42 #[.int .i64 (a : Int), .int .i64 (b : Int)] w (Only (.int .i64 0) w) := fun w => by have := Pasture_any (a : Int) (b : Int) w; rwa [show psE (a : Int) (b : Int) = 0 from if_pos (by unfold SzP; omega)] at this
  have hmk := make_ints a (by omega)
  have k0 := Lib.hid (Blk.new w 3 (cN (fun _ => 0) a))
  have B := Lib.hid (b1 w (.cells (cN (fun _ => 0) a) 3))
  obtain ⟨ha1, ha6⟩ := ha
  obtain ⟨hb1, hb6⟩ := hb
  have hln : l.length = a + b := by rw [← hl, Array.length_toList]; exact hsz
  replace hQ1 := Lib.hid hQ1
  replace hQ2 := Lib.hid hQ2
  replace hln := Lib.hid hln
  replace hl := Lib.hid hl
  go_enter Try.func37, Try.ntmps37
  go_wp2_with (go_at_call 42; refine (hP _).mono ?_; rintro _ _ ⟨rfl, rfl⟩)
  clear hmk
  have hF : Hid (ofR l a 0 (fun _ => 0) = ofF a l) := Lib.hid rfl
  generalize ofF a l = F at *
  go_loopw [10, 11, 12] (fun q p i wr => ∃ k m pn : Nat, ∃ y : Int, ∃ G : Nat → Nat, k ≤ a + b ∧ i = .int .i64 (k : Int) ∧ q = .int .i64 y ∧ y = (m : Int) - 1 ∧ p = .int .i64 (pn : Int) ∧ m ≤ a ∧ pn ≤ k ∧ Hid ((l.take k).count 117 + m = a) ∧ Hid ((l.take k).count 114 = pn) ∧ Hid (pn + a = k + m) ∧ Hid (ofR (l.drop k) m pn G = F) ∧ Blk wr w.heap.size 3 (cN G a) ∧ Below w.heap.size w wr) (fun _ _ i _ => a + b - (intOf i).toNat)
  case atStart => exact ⟨0, a, 0, _, _, by omega, rfl, rfl, rfl, rfl, Nat.le_refl _, Nat.le_refl _, Lib.hid (by simp), Lib.hid (by simp), Lib.hid rfl, hF, k0.out, B.out⟩
  case round =>
    clear k0 B
    obtain ⟨k, m, pn, y, G, hk, rfl, rfl, hy, rfl, hma, hpk, hcu, hcr, hpm, hof, k0, B⟩ := hrel
    replace k0 := Lib.hid k0
    replace B := Lib.hid B
    by_cases hlt : k < a + b
    · have hlt' : (k : Int) < (a : Int) + (b : Int) := by omega
      have hks : (k : Int) < (s.size : Int) := by omega
      have hkl : k < l.length := by rw [hln.out]; exact hlt
      have hbk : l.getD k 0 = s[k]'(by omega) := by rw [← hl.out]; exact byte_at s k (by omega)
      have hdr : l.drop k = l.getD k 0 :: l.drop (k + 1) := by rw [List.drop_eq_getElem_cons hkl]; simp [hkl]
      have h3 := hof.out
      have hc1 := count_take l 117 k hkl
      have hc2 := count_take l 114 k hkl
      rw [hdr] at h3
      rw [hbk] at h3 hc1 hc2
      by_cases e1 : s[k]'(by omega) = 117
      · have d1 : (((s[k]'(by omega)).toNat : Int) == 117) = true := by rw [byte_eq (n := 117) 117 rfl, decide_eq_true e1]
        have d2 : (((s[k]'(by omega)).toNat : Int) == 114) = false := by rw [byte_eq (n := 114) 114 rfl, decide_eq_false (by rw [e1]; decide)]
        rw [if_pos e1] at hc1
        rw [if_neg (by rw [e1]; decide)] at hc2
        by_cases hm0 : 0 < m
        · obtain ⟨r, rfl⟩ : ∃ r, m = r + 1 := ⟨m - 1, by omega⟩
          obtain rfl : y = (r : Int) := by omega
          have h3' : ofR (l.drop (k + 1)) r pn (upf G r pn) = F := by rw [← h3, ofR, if_neg (by rw [e1]; decide), Nat.add_sub_cancel]
          have hr0 : (0 : Int) ≤ (r : Int) := by omega
          have hra : (r : Int) < (a : Int) := by omega
          have f0 := k0.out.fr
          have hx0 := k0.out.c r (cN_get (h := G) (m := a) (i := r) (by omega))
          have m1 := k0.out.setA (i := r) (.int .i64 (pn : Int))
          rw [cN_set _ (by omega)] at m1
          replace m1 := Lib.hid m1
          have mB := Lib.hid (B.out.setCell (p := ⟨w.heap.size, r, none⟩) (Nat.le_refl _) (.int .i64 (pn : Int)))
          replace h3' := Lib.hid h3'
          replace hc1 := Lib.hid hc1
          replace hc2 := Lib.hid hc2
          replace e1 := Lib.hid e1
          clear h3 hy hdr hbk hkl
          go_wp2
          go_roundw
          case rel => exact ⟨k + 1, r, pn, (r : Int) - 1, upf G r pn, by omega, by go_num, rfl, rfl, rfl, by omega, by omega, Lib.hid (by have := hcu.out; rw [hc1.out]; omega), Lib.hid (by rw [hc2.out, hcr.out]; rfl), Lib.hid (by have := hpm.out; omega), h3', m1.out, mB.out⟩
          case measure => simp [intOf]; omega
        · obtain rfl : m = 0 := by omega
          have hQ : Q = ErrL 5 w := hQ2.out (fun hW => by
            have h4 := hW.us
            have h5 := List.Sublist.count_le (117 : UInt8) (List.take_sublist (k + 1) l)
            have := hcu.out
            omega)
          have hy0 : y < 0 := by omega
          subst hQ
          replace hc1 := Lib.hid hc1
          replace hc2 := Lib.hid hc2
          replace e1 := Lib.hid e1
          replace h3 := Lib.hid h3
          replace hdr := Lib.hid hdr
          replace hbk := Lib.hid hbk
          go_wp2
          go_ret2
          exact Ret.mk rfl B.out
      · have d1 : (((s[k]'(by omega)).toNat : Int) == 117) = false := by rw [byte_eq (n := 117) 117 rfl, decide_eq_false e1]
        rw [if_neg e1] at hc1
        by_cases e2 : s[k]'(by omega) = 114
        · have d2 : (((s[k]'(by omega)).toNat : Int) == 114) = true := by rw [byte_eq (n := 114) 114 rfl, decide_eq_true e2]
          rw [if_pos e2] at hc2
          have h3' : ofR (l.drop (k + 1)) m (pn + 1) G = F := by rw [← h3, ofR, if_pos e2]
          replace h3' := Lib.hid h3'
          replace hc1 := Lib.hid hc1
          replace hc2 := Lib.hid hc2
          replace e1 := Lib.hid e1
          replace e2 := Lib.hid e2
          clear h3 hdr hbk hkl
          go_wp2
          go_roundw
          case rel => exact ⟨k + 1, m, pn + 1, y, G, by omega, by go_num, rfl, hy, by go_num, by omega, by omega, Lib.hid (by have := hcu.out; rw [hc1.out]; omega), Lib.hid (by rw [hc2.out, hcr.out]), Lib.hid (by have := hpm.out; omega), h3', k0.out, B.out⟩
          case measure => simp [intOf]; omega
        · have d2 : (((s[k]'(by omega)).toNat : Int) == 114) = false := by rw [byte_eq (n := 114) 114 rfl, decide_eq_false e2]
          have hQ : Q = ErrL 5 w := hQ2.out (fun hW => by
            have h4 := two_letters l (by have := hW.us; have := hW.rs; have := hW.len; omega) (l.getD k 0) (by rw [List.getD_eq_getElem?_getD, List.getElem?_eq_getElem hkl]; exact List.getElem_mem hkl)
            rw [hbk] at h4
            rcases h4 with h | h
            · exact e1 h
            · exact e2 h)
          subst hQ
          replace hc1 := Lib.hid hc1
          replace hc2 := Lib.hid hc2
          replace e1 := Lib.hid e1
          replace e2 := Lib.hid e2
          replace h3 := Lib.hid h3
          replace hdr := Lib.hid hdr
          replace hbk := Lib.hid hbk
          go_wp2
          go_ret2
          exact Ret.mk rfl B.out
    · obtain rfl : k = a + b := by omega
      have hks : (s.size : Int) ≤ ((a + b : Nat) : Int) := by omega
      have et : l.take (a + b) = l := List.take_of_length_le (by rw [hln.out]; omega)
      have ed : l.drop (a + b) = [] := List.drop_of_length_le (by rw [hln.out]; omega)
      have h1 := hcu.out
      have h2 := hcr.out
      have h3 := hof.out
      have h4 := hpm.out
      rw [et] at h1 h2
      rw [ed] at h3
      by_cases hm0 : 0 < m
      · have hQ : Q = ErrL 5 w := hQ2.out (fun hW => by have := hW.us; omega)
        have hy0 : 0 ≤ y := by omega
        subst hQ
        replace h1 := Lib.hid h1
        replace h2 := Lib.hid h2
        replace h3 := Lib.hid h3
        replace h4 := Lib.hid h4
        replace et := Lib.hid et
        replace ed := Lib.hid ed
        go_wp2
        go_ret2
        exact Ret.mk rfl B.out
      · obtain rfl : m = 0 := by omega
        have hQ : Q = GotS a F w := hQ1.out ⟨hln.out, by omega, by omega⟩
        have hy0 : y < 0 := by omega
        have hGF : G = F := h3
        subst hQ
        subst hGF
        replace h1 := Lib.hid h1
        replace h2 := Lib.hid h2
        replace h4 := Lib.hid h4
        clear h3 et ed
        go_wp2
        go_ret2
        exact ⟨_, _, rfl, k0.out.intsN, B.out⟩
theorem refOf_yes (a b : Nat) (s : ByteArray) (w : World) (ha : 1 ≤ a ∧ a ≤ 6) (hb : 1 ≤ b ∧ b ≤ 6) (hw : IsW a b s.data.toList) :
    Calls Try.prog 37 #[.int .i64 (a : Int), .int .i64 (b : Int), .string s] w (GotS a (ofF a s.data.toList) w) :=
  refOf_core a b s _ w _ ha hb rfl (by rw [← size_list]; exact hw.len) (fun _ => rfl) (fun h => absurd hw h)
theorem refOf_form (a b : Nat) (s : ByteArray) (w : World) (ha : 1 ≤ a ∧ a ≤ 6) (hb : 1 ≤ b ∧ b ≤ 6) (hw : ¬ IsW a b s.data.toList) :
    Calls Try.prog 37 #[.int .i64 (a : Int), .int .i64 (b : Int), .string s] w (ErrL 5 w) := by
  by_cases e : s.size = a + b
  · exact refOf_core a b s _ w _ ha hb rfl e (fun h => absurd h hw) (fun _ => rfl)
  · have hP : ∀ w, Calls Try.prog 42 #[.int .i64 (a : Int), .int .i64 (b : Int)] w (Only (.int .i64 0) w) := fun w => by have := Pasture_any (a : Int) (b : Int) w; rwa [show psE (a : Int) (b : Int) = 0 from if_pos (by unfold SzP; omega)] at this
    have d1 : ((s.size : Int) == (a : Int) + (b : Int)) = false := by rw [beq_eq_false_iff_ne]; omega
    have e' : ¬ ((s.size : Int) = (a : Int) + (b : Int)) := by omega
    replace e := Lib.hid e
    clear hw
    go_enter Try.func37, Try.ntmps37
    go_wp2_with (go_at_call 42; refine (hP _).mono ?_; rintro _ _ ⟨rfl, rfl⟩)
    go_ret2
    exact Ret.mk rfl (Below.refl _ _)
theorem refOf_size (a b : Int) (v : Value) (w : World) (h : ¬ SzP a b) : Calls Try.prog 37 #[.int .i64 a, .int .i64 b, v] w (ErrL 2 w) := by
  have hP : ∀ w, Calls Try.prog 42 #[.int .i64 a, .int .i64 b] w (Only (.int .i64 2) w) := fun w => by have := Pasture_any a b w; rwa [show psE a b = 2 from if_neg h] at this
  clear h
  go_enter Try.func37, Try.ntmps37
  go_wp2_with (go_at_call 42; refine (hP _).mono ?_; rintro _ _ ⟨rfl, rfl⟩)
  go_ret2
  exact Ret.mk rfl (Below.refl _ _)
end Go.Proofs.Ytniknldeafmgaaa
