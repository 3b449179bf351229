/- Layer 8, by the program: word, Word. -/
import Derived.Test.YtniknldeafmgaaaGh
import Derived.Test.YtniknldeafmgaaaSh
namespace Go.Proofs.Ytniknldeafmgaaa
set_option linter.unusedSimpArgs false
set_option linter.unusedVariables false
open Go Go.RowKit

/-- How many columns are passed behind the last n rows. -/
def pasN (a : Nat) (g : Nat → Nat) (n : Nat) : Nat := if n = 0 then 0 else g (a - n)
/-- The letters of the last n rows. -/
def wrN (a : Nat) (g : Nat → Nat) : Nat → List UInt8
  | 0 => []
  | n + 1 => (wrN a g n ++ List.replicate (g (a - 1 - n) - pasN a g n) 114) ++ [117]
/-- The word. -/
def wordF (a b : Nat) (g : Nat → Nat) : List UInt8 := wrN a g a ++ List.replicate (b - g 0) 114
theorem pas_le {a b : Nat} {g : Nat → Nat} (h : IsS a b g) {r : Nat} (hr : r < a) : pasN a g (a - (r + 1)) ≤ g r := by
  unfold pasN
  split
  · omega
  · rw [show a - (a - (r + 1)) = r + 1 by omega]; exact h.dn r
theorem wrN_len {a b : Nat} {g : Nat → Nat} (h : IsS a b g) : ∀ n, n ≤ a → (wrN a g n).length = n + pasN a g n
  | 0, _ => rfl
  | n + 1, hn => by
    have ih := wrN_len h n (by omega)
    have hp := pas_le h (r := a - 1 - n) (by omega)
    rw [show a - (a - 1 - n + 1) = n by omega] at hp
    have e : pasN a g (n + 1) = g (a - 1 - n) := by
      unfold pasN
      rw [if_neg (by omega)]
      congr 1
      omega
    rw [wrN, List.length_append, List.length_append, List.length_replicate, ih, e]
    simp; omega
theorem pas_next {a : Nat} {g : Nat → Nat} {r : Nat} (hr : r < a) : pasN a g (a - r) = g r := by
  unfold pasN
  rw [if_neg (by omega), show a - (a - r) = r by omega]
theorem wr_next {a : Nat} {g : Nat → Nat} {r : Nat} (hr : r < a) : wrN a g (a - r) = (wrN a g (a - (r + 1)) ++ List.replicate (g r - pasN a g (a - (r + 1))) 114) ++ [117] := by
  rw [show a - r = (a - (r + 1)) + 1 by omega, wrN, show a - 1 - (a - (r + 1)) = r by omega]
theorem Blk.under {W W' : World} {B n : Nat} {t : TypeId} {cs : Array Value} (h : Blk W B t cs) (hb : Below n W W') (hn : B < n) : Blk W' B t cs := (hb.block _ hn).trans h
set_option maxRecDepth 100000 in
set_option maxHeartbeats 4000000 in
theorem word_any (a b : Nat) (g : Nat → Nat) (w : World) (hs : IsS a b g) : Calls Try.prog 69 #[pV a b g] w (Ret (.string (bytesOf (wordF a b g))) w) := by
  have h1 := hs.p.a1
  have h6 := hs.p.a6
  have hb6 := hs.p.b6
  have hgb := Lib.hid hs.p.gb
  have hpl := Lib.hid (fun r (h : r < a) => pas_le hs h)
  have hpn := Lib.hid (fun r (h : r < a) => pas_next (g := g) h)
  have hwn := Lib.hid (fun r (h : r < a) => wr_next (g := g) h)
  have hln := Lib.hid (fun n (h : n ≤ a) => wrN_len hs n h)
  have k0 := Lib.hid ((Blk.new w 66 (pC a b g)).alloc (.cells #[.pointer none, .slice none 0 0] 91))
  have B := Lib.hid (b2 w (.cells (pC a b g) 66) (.cells #[.pointer none, .slice none 0 0] 91))
  have k1 := bldI_new (w.alloc (.cells (pC a b g) 66))
  rw [World.size_alloc] at k1
  replace k1 := Lib.hid k1
  clear hs
  go_enter Try.func69, Try.ntmps69
  go_wp2
  go_loopw [4, 5] (fun p q wr => ∃ m : Nat, ∃ y : Int, m ≤ a ∧ p = .int .i64 ((pasN a g (a - m) : Nat) : Int) ∧ q = .int .i64 y ∧ y = (m : Int) - 1 ∧ Blk wr w.heap.size 66 (pC a b g) ∧ BldI (w.heap.size + 1) (wrN a g (a - m)) wr ∧ Below w.heap.size w wr) (fun _ q _ => (intOf q + 1).toNat)
  case atStart => exact ⟨a, _, Nat.le_refl _, by rw [Nat.sub_self]; rfl, rfl, rfl, k0.out, by rw [Nat.sub_self]; exact k1.out, B.out⟩
  case round =>
    clear k0 k1 B
    obtain ⟨m, y, hm, rfl, rfl, hy, k0, k1, B⟩ := hrel
    replace B := Lib.hid B
    replace k1 := Lib.hid k1
    by_cases hlt : 0 < m
    · obtain ⟨r, rfl⟩ : ∃ r, m = r + 1 := ⟨m - 1, by omega⟩
      obtain rfl : y = (r : Int) := by omega
      clear hy
      have hr6 : (r : Int) < 6 := by omega
      have hr0 : (0 : Int) ≤ (r : Int) := by omega
      have pg := k0.pg (i := r) (by omega)
      have hg6 := hgb.out r
      have hp := hpl.out r (by omega)
      have hpn' := Lib.hid (hpn.out r (by omega))
      have hwn' := Lib.hid (hwn.out r (by omega))
      have hl := hln.out (a - (r + 1)) (by omega)
      generalize pasN a g (a - (r + 1)) = p at *
      generalize wrN a g (a - (r + 1)) = acc at *
      have hl20 : acc.length ≤ 20 := by omega
      clear hl
      have hR := Lib.hid (fun w => repeat_any (g r - p) ((g r : Int) - (p : Int)) w (by omega) (by omega))
      obtain ⟨rep, hrep⟩ : ∃ rep : List UInt8, Hid (List.replicate (g r - p) 114 = rep) := ⟨_, Lib.hid rfl⟩
      have hrl : rep.length ≤ 6 := by rw [← hrep.out, List.length_replicate]; omega
      rw [hrep.out] at hwn' hR
      replace k0 := Lib.hid k0
      go_upto_region 7 with (first | (go_at_call 78; (with_reducible refine (hR.out _).mono ?_); rintro _ w1 ⟨rfl, hw1⟩; replace B := Lib.hid (nextB B.out hw1); replace k0 := Lib.hid (k0.out.ext hw1); replace k1 := Lib.hid (k1.out.next hw1); clear pg hw1) | (go_at_call 77; (with_reducible refine (writeString_any _ _ _ _ k1.out (by omega)).mono ?_); rintro _ w2 ⟨⟨_, rfl⟩, hw2⟩))
      replace k0 := Lib.hid (k0.out.under hw2.2 (Nat.lt_succ_self _))
      replace k1 := Lib.hid hw2.1
      replace B := Lib.hid (B.out.trans (hw2.2.mono (Nat.le_succ _)))
      clear hw2
      go_wp2_with (go_at_call 79; (with_reducible refine (writeByte_any _ _ _ k1.out (by simp only [List.length_append]; omega)).mono ?_); rintro _ w3 ⟨⟨_, rfl⟩, hw3⟩; replace k0 := k0.out.under hw3.2 (Nat.lt_succ_self _); replace k1 := Lib.hid hw3.1; replace B := Lib.hid (B.out.trans (hw3.2.mono (Nat.le_succ _))); have pg := k0.pg (i := r) (by omega); replace k0 := Lib.hid k0; clear hw3)
      go_roundw
      case rel => exact ⟨r, (r : Int) - 1, by omega, by rw [hpn'.out], rfl, rfl, k0.out, by rw [hwn'.out]; exact k1.out, B.out⟩
      case measure => simp [intOf]
    · obtain rfl : m = 0 := by omega
      have hy' : y < 0 := by omega
      have hpn' := hpn.out 0 (by omega)
      have hl := hln.out a (Nat.le_refl _)
      rw [Nat.sub_zero] at hpn'
      rw [hpn'] at hl
      rw [Nat.sub_zero] at k1
      have hW : Hid (wordF a b g = wrN a g a ++ List.replicate (b - g 0) 114) := Lib.hid rfl
      have hg0 := hgb.out 0
      have hR := Lib.hid (fun w => repeat_any (b - g 0) ((b : Int) - (g 0 : Int)) w (by omega) (by omega))
      obtain ⟨rep, hrep⟩ : ∃ rep : List UInt8, Hid (List.replicate (b - g 0) 114 = rep) := ⟨_, Lib.hid rfl⟩
      have hrl : rep.length ≤ 6 := by rw [← hrep.out, List.length_replicate]; omega
      rw [hrep.out] at hW hR
      generalize wrN a g a = acc at *
      have hl20 : acc.length ≤ 20 := by omega
      clear hl hpn hwn hln hpl
      obtain ⟨p0, p1, _⟩ := k0.pc
      have e0 : Hid (pasN a g a = g 0) := Lib.hid hpn'
      clear hpn'
      replace k0 := Lib.hid k0
      rw [Nat.sub_zero, e0.out]
      go_wp2_with (first | (go_at_call 78; (with_reducible refine (hR.out _).mono ?_); rintro _ w1 ⟨rfl, hw1⟩; replace B := Lib.hid (nextB B.out hw1); replace k1 := Lib.hid (k1.out.next hw1); clear p0 p1 hw1) | (go_at_call 77; (with_reducible refine (writeString_any _ _ _ _ k1.out (by omega)).mono ?_); rintro _ w2 ⟨⟨_, rfl⟩, hw2⟩; replace k1 := Lib.hid hw2.1; replace B := Lib.hid (B.out.trans (hw2.2.mono (Nat.le_succ _)))) | (go_at_call 80; (with_reducible refine (string_any _ _ _ k1.out).mono ?_); rintro _ w3 ⟨rfl, hw3⟩))
      go_ret
      rw [hW.out]
      exact Ret.mk rfl (B.out.trans (hw3.mono (Nat.le_succ _)))
end Go.Proofs.Ytniknldeafmgaaa
