/- Layer 8, the law of sweeps. -/
import Derived.Test.YtniknldeafmgaaaNe
import Derived.Test.YtniknldeafmgaaaHj
import Derived.Lib.IndexBytes
namespace Go.Proofs.Ytniknldeafmgaaa
set_option linter.unusedSimpArgs false
set_option linter.unusedVariables false
open Go Go.RowKit

theorem slA (c : UInt8) (l : List UInt8) (W : World) : (Instr.sliceAt 9 (.string (bytesOf (c :: l))) (some (.int .i64 1)) none none).run Try.prog W = .ok (.string (bytesOf l)) W := by
  have h : (⟨(c :: l).toArray⟩ : ByteArray).extract 1 (⟨(c :: l).toArray⟩ : ByteArray).size = ⟨l.toArray⟩ := by
    rw [Lib.extract_eq]
    have : (⟨(c :: l).toArray⟩ : ByteArray).size = l.length + 1 := by show (c :: l).toArray.size = _; simp
    rw [this]
    simp
  have hs : (⟨(c :: l).toArray⟩ : ByteArray).size = l.length + 1 := by show (c :: l).toArray.size = _; simp
  rw [hs] at h
  unfold bytesOf Instr.sliceAt Instr.slice Instr.sliceBounds Instr.sliceBound
  simp [asIntOf, run_underlying Try.underlying9, hs, h]
  omega
theorem slB (c : UInt8) (l : List UInt8) (W : World) : (Instr.sliceAt 9 (.string (bytesOf (c :: l))) none (some (.int .i64 1)) none).run Try.prog W = .ok (.string (bytesOf [c])) W := by
  have h : (⟨(c :: l).toArray⟩ : ByteArray).extract 0 1 = ⟨[c].toArray⟩ := by
    rw [Lib.extract_eq]
    simp
  have hs : (⟨(c :: l).toArray⟩ : ByteArray).size = l.length + 1 := by show (c :: l).toArray.size = _; simp
  unfold bytesOf Instr.sliceAt Instr.slice Instr.sliceBounds Instr.sliceBound
  simp [asIntOf, run_underlying Try.underlying9, hs, h]
  try omega
theorem neA (s : ByteArray) (W : World) : (binOp .neq 9 (.string s) (.string s)).run Try.prog W = .ok (.bool false) W := by
  go_simp
set_option maxRecDepth 100000 in
set_option maxHeartbeats 4000000 in
theorem moved_good (a b : Nat) (g : Nat → Nat) (ad : Option Addr) (c : Nat) (w : World) (hs : IsS a b g) (hI : Ints w ad (stL a g)) :
    Calls Try.prog 11 #[.int .i64 (a : Int), .int .i64 (b : Int), .slice ad a c] w (Ret (.bool true) w) := by
  have ha1 := hs.p.a1
  have ha6 := hs.p.a6
  have hb1 := hs.p.b1
  have hb6 := hs.p.b6
  have hG := good_yes a b g ad c w hs hI
  have hd20 : decide ((20 : Int) < (a : Int)) = false := decide_eq_false (by omega)
  have hW := word_W hs
  have hWd := Lib.hid (fun ad c w h => Word_yes a b g ad c w hs h)
  have hOf := Lib.hid (fun w => by have := Of_yes a b (wordF a b g) w ⟨ha1, ha6⟩ ⟨hb1, hb6⟩ hW; rw [of_word hs] at this; exact (this.mono fun _ _ k => k.gotS : Calls _ _ _ _ (GotS a g w)))
  have hSw := Lib.hid (fun g (hs : IsS a b g) ad c w h => (Sweep_yes a b g ad c w hs h).mono fun _ _ k => k.gotS)
  have hV := Lib.hid (fun ad c w h => Word_yes a b (sweF a b g) ad c w (sweF_S hs) h)
  have hrot := word_sweep hs
  have hlen : (bytesOf (wordF a b g)).size = a + b := by rw [bytesOf_size, hW.len]
  have hSI := Lib.hid (fun n => sweI_S hs n)
  have hback := Lib.hid (sweeps_back hs)
  replace hs := Lib.hid hs
  replace hI := Lib.hid hI
  go_enter Try.func11, Try.ntmps11
  go_upto_region 7 with (first
    | (go_at_call 40; refine hG.mono ?_; rintro _ w1 ⟨rfl, hw1⟩; replace hI := Lib.hid (hI.out.next hw1); have B := Lib.hid hw1; clear hw1 hG)
    | (go_at_call 34; (with_reducible refine (hWd.out _ _ _ hI.out).mono ?_); rintro _ w2 ⟨rfl, hw2⟩; replace hI := Lib.hid (hI.out.next hw2); replace B := Lib.hid (nextB B.out hw2); clear hw2)
    | (go_at_call 36; (with_reducible refine (hOf.out _).mono ?_); rintro _ w3 ⟨a3, c3, rfl, hI3, hw3⟩; replace hI := Lib.hid (hI.out.next hw3); replace hI3 := Lib.hid hI3; replace B := Lib.hid (nextB B.out hw3); clear hw3)
    | (go_at_call 32; (with_reducible refine (hSw.out g hs.out _ _ _ hI.out).mono ?_); rintro _ w4 ⟨a4, c4, rfl, hI4, hw4⟩; replace hI := Lib.hid (hI.out.next hw4); replace hI3 := Lib.hid (hI3.out.next hw4); replace hI4 := Lib.hid hI4; replace B := Lib.hid (nextB B.out hw4); clear hw4)
    | (go_at_call 34; (with_reducible refine (hV.out _ _ _ hI4.out).mono ?_); rintro _ w5 ⟨rfl, hw5⟩; replace hI := Lib.hid (hI.out.next hw5); replace hI3 := Lib.hid (hI3.out.next hw5); replace B := Lib.hid (nextB B.out hw5); clear hw5))
  have hl := hW.len
  clear hWd hOf hV hI4 hlen
  generalize wordF a b g = L at *
  obtain ⟨x, l, rfl⟩ : ∃ x l, L = x :: l := by
    cases L with
    | nil => simp at hl; omega
    | cons x l => exact ⟨x, l, rfl⟩
  have hr1 : rotN (x :: l) 1 = l ++ [x] := rfl
  have q1 := slA x l
  have q2 := slB x l
  have q3 : bytesOf l ++ bytesOf [x] = bytesOf (l ++ [x]) := by apply ByteArray.ext; simp [bytesOf]
  have q5 : (bytesOf l).size + (bytesOf [x]).size ≤ 9223372036854775807 := by rw [bytesOf_size, bytesOf_size]; simp at hl ⊢; omega
  have q4 := neA (bytesOf (l ++ [x]))
  have hsz : (bytesOf (x :: l)).size = a + b := by rw [bytesOf_size]; exact hl
  have hcmp : ((((bytesOf (x :: l)).size : Nat) : Int) != (a : Int) + (b : Int)) = false := by rw [hsz, bne_eq_false_iff_eq]; omega
  rw [hr1]
  replace hr1 := Lib.hid hr1
  replace hrot := Lib.hid hrot
  replace hl := Lib.hid hl
  clear hW
  refine wp_region_ext (by kernel_rfl) (by kernel_rfl) ?_
  have hEq := Lib.hid (fun (x : Ext w5) => same_eq a3 ad a c3 c g g x.world ha6 (hI3.out.next x.ok) (hI.out.next x.ok) rfl)
  repeat (go_big_quiet_step (first | (go_at_call 18; with_reducible exact callE (hEq.out _))))
  refine wpQuiet_nil ?_
  rintro ⟨w6, hw6⟩
  dsimp only
  replace hI := Lib.hid (hI.out.next hw6)
  replace B := Lib.hid (nextB B.out hw6)
  clear hEq hI3 q1 q2 q3 q4 q5 hw6 hcmp
  go_wp2
  go_loopw [15, 16, 17, 18] (fun v i _ _ wr => ∃ k : Nat, ∃ av cv, k ≤ a + b ∧ i = .int .i64 (k : Int) ∧ v = .slice av a cv ∧ Ints wr av (stL a (sweI a b g k)) ∧ Ints wr ad (stL a g) ∧ Below w.heap.size w wr) (fun _ i _ _ _ => a + b - (intOf i).toNat)
  case atStart => exact ⟨0, ad, c, by omega, rfl, rfl, hI.out, hI.out, B.out⟩
  case round =>
    clear hI B
    obtain ⟨k, av, cv, hk, rfl, rfl, hIv, hI, B⟩ := hrel
    replace hI := Lib.hid hI
    replace hIv := Lib.hid hIv
    replace B := Lib.hid B
    by_cases hlt : k < a + b
    · have hlt' : (k : Int) < (a : Int) + (b : Int) := by omega
      have hSk := Lib.hid (hSw.out _ (hSI.out k))
      have hnx : Hid (sweF a b (sweI a b g k) = sweI a b g (k + 1)) := Lib.hid rfl
      generalize sweI a b g k = gk at *
      go_wp2_with (go_at_call 32; (with_reducible refine (hSk.out _ _ _ hIv.out).mono ?_); rintro _ w7 ⟨a7, c7, rfl, hI7, hw7⟩; replace hI := Lib.hid (hI.out.next hw7); replace hI7 := Lib.hid hI7; replace B := Lib.hid (nextB B.out hw7); clear hw7 hIv)
      go_roundw
      case rel => exact ⟨k + 1, a7, c7, by omega, by go_num, rfl, by rw [← hnx.out]; exact hI7.out, hI.out, B.out⟩
      case measure => simp [intOf]; omega
    · have hlt' : (a : Int) + (b : Int) ≤ (k : Int) := by omega
      have ek : Hid (sweI a b g k = g) := Lib.hid (by rw [show k = a + b by omega]; exact hback.out)
      have hS := Lib.hid (same_eq av ad a cv c _ g _ ha6 hIv.out hI.out ek.out)
      clear hSw hSI
      go_wp2_with (first
        | (go_at_call 18; (with_reducible refine hS.out.mono ?_); rintro _ w8 ⟨rfl, hw8⟩; replace B := Lib.hid (nextB B.out hw8); clear hw8)
        | (go_at_call 15; refine (alive_any _).mono ?_; rintro _ w9 ⟨rfl, hw9⟩))
      go_ret
      exact Ret.mk rfl (nextB B.out hw9)
set_option maxRecDepth 100000 in
theorem moved_law (a b : Int) (ad : Option Addr) (n c : Nat) (xs : List Int)  (w : World) (hI : Ints w ad xs) (hl : xs.length = n) (_hc : n ≤ c) (_hn : ad = none → c = 0)  : Calls Try.prog 11 #[.int .i64 a, .int .i64 b, .slice ad n c] w (Ret (.bool true) w) := by
  clear _hc _hn
  by_cases hlen : 20 < n
  · have hlen' : (20 : Int) < (n : Int) := by omega
    clear hI hl
    go_enter Try.func11, Try.ntmps11
    go_wp2_with (go_at_call 15; refine (alive_any _).mono ?_; rintro _ w1 ⟨rfl, hw1⟩)
    go_ret
    exact Ret.mk rfl hw1
  · by_cases hS : StP a b xs
    · obtain ⟨A, B, rfl, rfl, hS2, hx⟩ := hS.parts
      clear hS
      generalize gX xs = g at *
      subst hx
      rw [stL_len] at hl
      subst hl
      exact moved_good A B g ad c  w hS2 hI 
    · have hlen' : (n : Int) ≤ 20 := by omega
      have hG := good_no a b xs ad n c w hI hl (by omega) hS
      clear hI hl hS
      go_enter Try.func11, Try.ntmps11
      go_wp2_with (first | (go_at_call 40; refine hG.mono ?_; rintro _ w2 ⟨rfl, hw2⟩) | (go_at_call 15; refine (alive_any _).mono ?_; rintro _ w1 ⟨rfl, hw1⟩))
      go_ret
      exact Ret.mk rfl (nextB hw2 hw1)

end Go.Proofs.Ytniknldeafmgaaa
