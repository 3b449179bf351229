/- Layer 8, the specification: Word. -/
import Derived.Test.YtniknldeafmgaaaQg
import Derived.Test.YtniknldeafmgaaaHa
namespace Go.Proofs.Ytniknldeafmgaaa
set_option linter.unusedSimpArgs false
set_option linter.unusedVariables false
open Go Go.RowKit

theorem bytesOf_snoc (l : List UInt8) (c : UInt8) : bytesOf l ++ (⟨#[c]⟩ : ByteArray) = bytesOf (l ++ [c]) := by
  apply ByteArray.ext
  simp [bytesOf, ByteArray.data_append]
theorem rep_snoc (n : Nat) (c : UInt8) : List.replicate n c ++ [c] = List.replicate (n + 1) c := by rw [List.replicate_succ']
set_option maxRecDepth 100000 in
set_option maxHeartbeats 4000000 in
theorem refWord_yes (a b : Nat) (g : Nat → Nat) (ad : Option Addr) (c : Nat) (w : World) (hs : IsS a b g) (hI : Ints w ad (stL a g)) :
    Calls Try.prog 35 #[.int .i64 (a : Int), .int .i64 (b : Int), .slice ad a c] w (Ret (.tuple #[.string (bytesOf (wordF a b g)), .int .i64 0]) w) := by
  have hA := asked_yes a b g ad c w hs hI
  have h1 := hs.p.a1
  have h6 := hs.p.a6
  have hb6 := hs.p.b6
  have hgb := Lib.hid hs.p.gb
  have hpl := Lib.hid (fun r (h : r < a) => pas_le hs h)
  have hpn := Lib.hid (fun r (h : r < a) => pas_next (g := g) h)
  have hwn := Lib.hid (fun r (h : r < a) => wr_next (g := g) h)
  have hln := Lib.hid (fun n (h : n ≤ a) => wrN_len hs n h)
  obtain ⟨B0, off, rfl, hcell⟩ := ints_row hI h1
  replace hcell := Lib.hid hcell
  clear hs hI
  go_enter Try.func35, Try.ntmps35
  go_wp2_with (go_at_call 48; refine hA.mono ?_; rintro _ w1 ⟨rfl, hw1⟩)
  have hcell1 := Lib.hid (fun i hi => cellB hw1 (hcell.out i hi))
  replace hw1 := Lib.hid hw1
  clear hA hcell
  go_loopw [9, 10, 11] (fun s p q wr => wr = w1 ∧ ∃ m : Nat, ∃ y : Int, ∃ bs, m ≤ a ∧ s = .string bs ∧ bs = bytesOf (wrN a g (a - m)) ∧ p = .int .i64 ((pasN a g (a - m) : Nat) : Int) ∧ q = .int .i64 y ∧ y = (m : Int) - 1) (fun _ _ q _ => (intOf q + 1).toNat)
  case atStart => exact ⟨rfl, a, _, _, Nat.le_refl _, rfl, by rw [Nat.sub_self]; rfl, by rw [Nat.sub_self]; rfl, rfl, rfl⟩
  case round =>
    obtain ⟨rfl, m, y, bs, hm, rfl, hbs, rfl, rfl, hy⟩ := hrel
    replace hbs := Lib.hid hbs
    by_cases hlt : 0 < m
    · obtain ⟨r, rfl⟩ : ∃ r, m = r + 1 := ⟨m - 1, by omega⟩
      obtain rfl : y = (r : Int) := by omega
      clear hy
      have hr6 : (r : Int) < 6 := by omega
      have hra : (r : Int) < (a : Int) := by omega
      have hr0 : (0 : Int) ≤ (r : Int) := by omega
      have x0 := hcell1.out r (by omega)
      have hg6 := hgb.out r
      have hp := hpl.out r (by omega)
      have hpn' := Lib.hid (hpn.out r (by omega))
      have hwn' := Lib.hid (hwn.out r (by omega))
      have hl := hln.out (a - (r + 1)) (by omega)
      generalize pasN a g (a - (r + 1)) = p at *
      generalize wrN a g (a - (r + 1)) = acc at *
      replace hl := Lib.hid hl
      go_wp2
      go_loopw [9, 10] (fun s p' wq => wq = wr ∧ ∃ t : Nat, ∃ bs, ∃ z : Int, t ≤ g r - p ∧ s = .string bs ∧ bs = bytesOf (acc ++ List.replicate t 114) ∧ p' = .int .i64 z ∧ z = (p : Int) + (t : Int)) (fun _ q _ => g r - (intOf q).toNat)
      case atStart => exact ⟨rfl, 0, bs, _, Nat.zero_le _, rfl, by rw [hbs.out, List.replicate_zero, List.append_nil], rfl, by omega⟩
      case round =>
        obtain ⟨rfl, t, bs2, z, ht, rfl, hbs2, rfl, hz⟩ := hrel
        have hsz : bs2.size ≤ 40 := by have := hl.out; rw [hbs2, bytesOf_size, List.length_append, List.length_replicate]; omega
        replace hbs2 := Lib.hid hbs2
        by_cases htt : t < g r - p
        · have ht' : z < (g r : Int) := by omega
          have hz0 : 0 ≤ z := by omega
          replace hz := Lib.hid hz
          go_wp2
          go_roundw
          case rel => exact ⟨trivial, t + 1, _, z + 1, by omega, rfl, by rw [hbs2.out, bytesOf_snoc, List.append_assoc, rep_snoc], rfl, by have := hz.out; omega⟩
          case measure => simp [intOf]; omega
        · have ht' : (g r : Int) ≤ z := by omega
          have et : Hid (t = g r - p) := Lib.hid (by omega)
          have et2 : Hid (z = (g r : Int)) := Lib.hid (by omega)
          replace hz := Lib.hid hz
          go_wp2
          go_roundw
          case rel => exact ⟨trivial, r, (r : Int) - 1, _, by omega, rfl, by rw [hbs2.out, bytesOf_snoc, hwn'.out, et.out], by rw [hpn'.out, et2.out], rfl, rfl⟩
          case measure => simp [intOf]
    · obtain rfl : m = 0 := by omega
      have hy' : y < 0 := by omega
      have hpn' := hpn.out 0 (by omega)
      rw [Nat.sub_zero] at hpn' hbs
      rw [Nat.sub_zero, hpn']
      have hg0 := hgb.out 0
      have hl := hln.out a (Nat.le_refl _)
      rw [hpn'] at hl
      replace hl := Lib.hid hl
      have hW : Hid (wordF a b g = wrN a g a ++ List.replicate (b - g 0) 114) := Lib.hid rfl
      generalize wrN a g a = acc at *
      clear hpn hwn hpl hpn' hln
      go_wp2
      go_loopw [9, 10] (fun s p' wq => wq = wr ∧ ∃ t : Nat, ∃ bs, ∃ z : Int, t ≤ b - g 0 ∧ s = .string bs ∧ bs = bytesOf (acc ++ List.replicate t 114) ∧ p' = .int .i64 z ∧ z = (g 0 : Int) + (t : Int)) (fun _ q _ => b - (intOf q).toNat)
      case atStart => exact ⟨rfl, 0, bs, _, Nat.zero_le _, rfl, by rw [hbs.out, List.replicate_zero, List.append_nil], rfl, by omega⟩
      case round =>
        obtain ⟨rfl, t, bs2, z, ht, rfl, hbs2, rfl, hz⟩ := hrel
        have hsz : bs2.size ≤ 40 := by have := hl.out; rw [hbs2, bytesOf_size, List.length_append, List.length_replicate]; omega
        replace hbs2 := Lib.hid hbs2
        by_cases htt : t < b - g 0
        · have ht' : z < (b : Int) := by omega
          have hz0 : 0 ≤ z := by omega
          replace hz := Lib.hid hz
          go_wp2
          go_roundw
          case rel => exact ⟨trivial, t + 1, _, z + 1, by omega, rfl, by rw [hbs2.out, bytesOf_snoc, List.append_assoc, rep_snoc], rfl, by have := hz.out; omega⟩
          case measure => simp [intOf]; omega
        · have ht' : (b : Int) ≤ z := by omega
          replace hz := Lib.hid hz
          have et : Hid (t = b - g 0) := Lib.hid (by omega)
          go_wp2
          go_ret2
          have e : bs2 = bytesOf (wordF a b g) := by rw [hbs2.out, hW.out, et.out]
          rw [← e]
          exact Ret.mk rfl hw1.out
theorem refWord_no (a b : Int) (xs : List Int) (ad : Option Addr) (n c : Nat) (w : World) (hI : Ints w ad xs) (hl : xs.length = n) (hn : n ≤ 4611686018427387904) (h : ¬ StP a b xs) :
    Calls Try.prog 35 #[.int .i64 a, .int .i64 b, .slice ad n c] w (Ret (.tuple #[.string ⟨#[]⟩, .int .i64 2]) w) := by
  have hA := asked_no a b xs ad n c w hI hl hn h
  clear hI hl h hn
  go_enter Try.func35, Try.ntmps35
  go_wp2_with (go_at_call 48; refine hA.mono ?_; rintro _ w1 ⟨rfl, hw1⟩)
  go_ret2
  exact Ret.mk rfl hw1
end Go.Proofs.Ytniknldeafmgaaa
