/- Layer 8, the law of words. -/
import Derived.Test.YtniknldeafmgaaaHj
namespace Go.Proofs.Ytniknldeafmgaaa
set_option linter.unusedSimpArgs false
set_option linter.unusedVariables false
open Go Go.RowKit

theorem bytes_eta (s : ByteArray) : bytesOf s.data.toList = s := by
  cases s; simp [bytesOf]
theorem byte_at (s : ByteArray) (k : Nat) (h : k < s.size) : s.data.toList.getD k 0 = s[k]'h := by
  have h' : k < s.data.size := h
  rw [List.getD_eq_getElem?_getD, Array.getElem?_toList, Array.getElem?_eq_getElem h']; rfl
theorem size_list (s : ByteArray) : s.data.toList.length = s.size := by rw [Array.length_toList]; rfl
theorem count_take (l : List UInt8) (c : UInt8) (k : Nat) (h : k < l.length) : (l.take (k + 1)).count c = (l.take k).count c + if l.getD k 0 = c then 1 else 0 := by
  rw [List.take_succ_eq_append_getElem h, List.count_append]
  have e : l[k] = l.getD k 0 := by simp [h]
  rw [e]
  generalize l.getD k 0 = x
  rw [List.count_cons]
  by_cases e2 : x = c
  · rw [if_pos e2]; simp [e2]
  · rw [if_neg e2]; simp [e2]
theorem byte_eq {x : UInt8} {n : Int} (c : UInt8) (hn : n = (c.toNat : Int)) : ((x.toNat : Int) == n) = decide (x = c) := by
  subst hn
  by_cases e : x = c
  · rw [e, decide_eq_true rfl, beq_self_eq_true]
  · rw [decide_eq_false e, beq_eq_false_iff_ne]
    intro h
    exact e (UInt8.toNat_inj.1 (by omega))
set_option maxRecDepth 100000 in
set_option maxHeartbeats 4000000 in
theorem words_in (a b : Nat) (s : ByteArray) (w : World) (ha : 1 ≤ a ∧ a ≤ 6) (hb : 1 ≤ b ∧ b ≤ 6) (h40 : s.size ≤ 40) :
    Calls Try.prog 12 #[.int .i64 (a : Int), .int .i64 (b : Int), .string s] w (Ret (.bool true) w) := by
  have hP : ∀ w, Calls Try.prog 42 #[.int .i64 (a : Int), .int .i64 (b : Int)] w (Only (.int .i64 0) w) := fun w => by have := Pasture_any (a : Int) (b : Int) w; rwa [show psE (a : Int) (b : Int) = 0 from if_pos (by unfold SzP; omega)] at this
  have hbt := Lib.hid (byte_at s)
  have hln := Lib.hid (size_list s)
  have hct := Lib.hid (count_take s.data.toList)
  obtain ⟨u, hu⟩ : ∃ u : Nat → Nat, Hid (∀ k, (s.data.toList.take k).count 117 = u k) := ⟨_, Lib.hid fun _ => rfl⟩
  obtain ⟨r, hr⟩ : ∃ r : Nat → Nat, Hid (∀ k, (s.data.toList.take k).count 114 = r k) := ⟨_, Lib.hid fun _ => rfl⟩
  have hus : Hid (∀ k (h : k < s.size), u (k + 1) = u k + if s[k]'h = 117 then 1 else 0) := Lib.hid (fun k h => by rw [← hu.out, ← hu.out, hct.out 117 k (by rw [hln.out]; exact h), hbt.out k h])
  have hrs : Hid (∀ k (h : k < s.size), r (k + 1) = r k + if s[k]'h = 114 then 1 else 0) := Lib.hid (fun k h => by rw [← hr.out, ← hr.out, hct.out 114 k (by rw [hln.out]; exact h), hbt.out k h])
  have hu0 : u 0 = 0 := by rw [← hu.out]; rfl
  have hr0 : r 0 = 0 := by rw [← hr.out]; rfl
  have hub : Hid (∀ k, u k ≤ k ∧ r k ≤ k) := Lib.hid (fun k => by
    rw [← hu.out, ← hr.out]
    exact ⟨Nat.le_trans List.count_le_length (by rw [List.length_take]; omega), Nat.le_trans List.count_le_length (by rw [List.length_take]; omega)⟩)
  have hun : Hid (s.data.toList.count 117 = u s.size) := Lib.hid (by rw [← hu.out, ← hln.out, List.take_length])
  have hrn : Hid (s.data.toList.count 114 = r s.size) := Lib.hid (by rw [← hr.out, ← hln.out, List.take_length])
  replace hu0 := Lib.hid hu0
  replace hr0 := Lib.hid hr0
  replace ha := Lib.hid ha
  replace hb := Lib.hid hb
  have ha1 := ha.out.1
  have ha6 := ha.out.2
  have hb1 := hb.out.1
  have hb6 := hb.out.2
  have h40' : decide ((40 : Int) < (s.size : Int)) = false := decide_eq_false (by omega)
  go_enter Try.func12, Try.ntmps12
  go_wp2_with (go_at_call 42; refine (hP _).mono ?_; rintro _ _ ⟨rfl, rfl⟩)
  go_loop [7, 8, 9] (fun p q i => ∃ k : Nat, k ≤ s.size ∧ p = .int .i64 (u k : Nat) ∧ q = .int .i64 (r k : Nat) ∧ i = .int .i64 (k : Int)) (fun _ _ i => s.size - (intOf i).toNat)
  case atStart => exact ⟨0, Nat.zero_le _, by rw [hu0.out]; rfl, by rw [hr0.out]; rfl, rfl⟩
  case round =>
    obtain ⟨k, hk, rfl, rfl, rfl⟩ := hrel
    by_cases hlt : k < s.size
    · have hlt' : (k : Int) < (s.size : Int) := by omega
      have h1 := hus.out k hlt
      have h2 := hrs.out k hlt
      have hbk := hub.out k
      by_cases e1 : s[k]'hlt = 117
      · rw [if_pos e1] at h1
        rw [if_neg (by rw [e1]; decide)] at h2
        have d1 : (((s[k]'hlt).toNat : Int) == 117) = true := by rw [byte_eq (n := 117) 117 rfl, decide_eq_true e1]
        have d2 : (((s[k]'hlt).toNat : Int) == 114) = false := by rw [byte_eq (n := 114) 114 rfl, decide_eq_false (by rw [e1]; decide)]
        replace h1 := Lib.hid h1
        replace h2 := Lib.hid h2
        replace e1 := Lib.hid e1
        go_wp2
        go_round
        case rel => exact ⟨k + 1, by omega, congrArg (Value.int .i64) (by have := h1.out; omega), congrArg (Value.int .i64) (by have := h2.out; omega), by go_num⟩
        case measure => simp [intOf]; omega
      · rw [if_neg e1] at h1
        have d1 : (((s[k]'hlt).toNat : Int) == 117) = false := by rw [byte_eq (n := 117) 117 rfl, decide_eq_false e1]
        by_cases e2 : s[k]'hlt = 114
        · rw [if_pos e2] at h2
          have d2 : (((s[k]'hlt).toNat : Int) == 114) = true := by rw [byte_eq (n := 114) 114 rfl, decide_eq_true e2]
          replace h1 := Lib.hid h1
          replace h2 := Lib.hid h2
          replace e1 := Lib.hid e1
          replace e2 := Lib.hid e2
          go_wp2
          go_round
          case rel => exact ⟨k + 1, by omega, congrArg (Value.int .i64) (by have := h1.out; omega), congrArg (Value.int .i64) (by have := h2.out; omega), by go_num⟩
          case measure => simp [intOf]; omega
        · rw [if_neg e2] at h2
          have d2 : (((s[k]'hlt).toNat : Int) == 114) = false := by rw [byte_eq (n := 114) 114 rfl, decide_eq_false e2]
          replace h1 := Lib.hid h1
          replace h2 := Lib.hid h2
          replace e1 := Lib.hid e1
          replace e2 := Lib.hid e2
          go_wp2
          go_round
          case rel => exact ⟨k + 1, by omega, congrArg (Value.int .i64) (by have := h1.out; omega), congrArg (Value.int .i64) (by have := h2.out; omega), by go_num⟩
          case measure => simp [intOf]; omega
    · obtain rfl : k = s.size := by omega
      have hn1 := hun.out
      have hn2 := hrn.out
      generalize u s.size = U at *
      generalize r s.size = R at *
      by_cases hW : IsW a b s.data.toList
      · have e1 : U = a := by rw [← hn1]; exact hW.us
        have e2 : R = b := by rw [← hn2]; exact hW.rs
        have e3 : s.size = a + b := by rw [← hln.out]; exact hW.len
        have hO := Of_yes a b s.data.toList w ha.out hb.out hW
        rw [bytes_eta] at hO
        have hS := ofF_S ha.out hb.out hW
        have hWd := word_of ha1 hW
        have hwd := Lib.hid (fun ad c w (h : Ints w ad (stL a (ofF a s.data.toList))) => by have := Word_yes a b _ ad c w hS h; rw [hWd, bytes_eta] at this; exact this)
        replace hS := Lib.hid hS
        replace hO := Lib.hid (hO.mono fun _ _ k => k.gotS)
        subst e1
        subst e2
        generalize ofF U s.data.toList = g at *
        have hq : ∀ W, (binOp .eql 9 (.string s) (.string s)).run Try.prog W = .ok (.bool true) W := fun W => by go_simp
        clear hW hWd hn1 hn2 hbt hct hus hrs hu hr
        go_wp2_with (first
          | (go_at_call 36; refine hO.out.mono ?_; rintro _ w1 ⟨ad, c, rfl, hI, hw1⟩; replace hI := Lib.hid hI; have B := Lib.hid hw1; clear hw1)
          | (go_at_call 34; refine (hwd.out _ _ _ hI.out).mono ?_; rintro _ w2 ⟨rfl, hw2⟩; replace hI := Lib.hid (hI.out.next hw2); replace B := Lib.hid (nextB B.out hw2); clear hw2)
          | (go_at_call 41; refine (IsState_yes _ _ _ _ _ _ hS.out hI.out).mono ?_; rintro _ w3 ⟨rfl, hw3⟩; replace B := Lib.hid (nextB B.out hw3); clear hw3)
          | (go_at_call 15; refine (alive_any _).mono ?_; rintro _ w4 ⟨rfl, hw4⟩))
        go_ret
        exact Ret.mk rfl (nextB B.out hw4)
      · have hO := Lib.hid (Of_form a b s w ha.out hb.out hW)
        have hcase : U ≠ a ∨ (U = a ∧ R ≠ b) ∨ (U = a ∧ R = b ∧ s.size ≠ a + b) := by
          by_cases c1 : U = a
          · by_cases c2 : R = b
            · exact .inr (.inr ⟨c1, c2, fun c3 => hW ⟨by rw [hln.out]; exact c3, by rw [hn1]; exact c1, by rw [hn2]; exact c2⟩⟩)
            · exact .inr (.inl ⟨c1, c2⟩)
          · exact .inl c1
        clear hW hn1 hn2 hbt hct hus hrs hu hr
        rcases hcase with c1 | ⟨c1, c2⟩ | ⟨c1, c2, c3⟩
        · have d1 : ((U : Int) == (a : Int)) = false := by rw [beq_eq_false_iff_ne]; omega
          have d2 : ¬ (U : Int) = (a : Int) := by omega
          replace c1 := Lib.hid c1
          go_wp2_with (first
            | (go_at_call 36; refine hO.out.mono ?_; rintro _ w1 ⟨rfl, hw1⟩)
            | (go_at_call 15; refine (alive_any _).mono ?_; rintro _ w4 ⟨rfl, hw4⟩))
          go_ret
          exact Ret.mk rfl (nextB hw1 hw4)
        · subst c1
          have d1 : ((R : Int) == (b : Int)) = false := by rw [beq_eq_false_iff_ne]; omega
          have d2 : ¬ (R : Int) = (b : Int) := by omega
          replace c2 := Lib.hid c2
          go_wp2_with (first
            | (go_at_call 36; refine hO.out.mono ?_; rintro _ w1 ⟨rfl, hw1⟩)
            | (go_at_call 15; refine (alive_any _).mono ?_; rintro _ w4 ⟨rfl, hw4⟩))
          go_ret
          exact Ret.mk rfl (nextB hw1 hw4)
        · subst c1
          subst c2
          have d1 : ((s.size : Int) == (U : Int) + (R : Int)) = false := by rw [beq_eq_false_iff_ne]; omega
          have d2 : ¬ (s.size : Int) = (U : Int) + (R : Int) := by omega
          replace c3 := Lib.hid c3
          go_wp2_with (first
            | (go_at_call 36; refine hO.out.mono ?_; rintro _ w1 ⟨rfl, hw1⟩)
            | (go_at_call 15; refine (alive_any _).mono ?_; rintro _ w4 ⟨rfl, hw4⟩))
          go_ret
          exact Ret.mk rfl (nextB hw1 hw4)
theorem words_law (a b : Int) (s : ByteArray) (w : World) :
    Calls Try.prog 12 #[.int .i64 a, .int .i64 b, .string s] w (Ret (.bool true) w) := by
  by_cases h40 : 40 < s.size
  · have h40' : (40 : Int) < (s.size : Int) := by omega
    go_enter Try.func12, Try.ntmps12
    go_wp2_with (go_at_call 15; refine (alive_any _).mono ?_; rintro _ w4 ⟨rfl, hw4⟩)
    go_ret
    exact Ret.mk rfl hw4
  · by_cases hs : SzP a b
    · have h := hs
      unfold SzP at h
      obtain ⟨A, rfl⟩ : ∃ A : Nat, a = A := ⟨a.toNat, by omega⟩
      obtain ⟨B, rfl⟩ : ∃ B : Nat, b = B := ⟨b.toNat, by omega⟩
      exact words_in A B s w (by omega) (by omega) (by omega)
    · have h40' : (s.size : Int) ≤ 40 := by omega
      have hP : ∀ w, Calls Try.prog 42 #[.int .i64 a, .int .i64 b] w (Only (.int .i64 2) w) := fun w => by have := Pasture_any a b w; rwa [show psE a b = 2 from if_neg hs] at this
      clear hs
      go_enter Try.func12, Try.ntmps12
      go_wp2_with (first | (go_at_call 42; refine (hP _).mono ?_; rintro _ _ ⟨rfl, rfl⟩) | (go_at_call 15; refine (alive_any _).mono ?_; rintro _ w4 ⟨rfl, hw4⟩))
      go_ret
      exact Ret.mk rfl hw4
end Go.Proofs.Ytniknldeafmgaaa
