/- Layer 7, the laws: WagerNumbers. -/
import Derived.Test.YtdafpjapepfniaaGb
namespace Go.Proofs.Ytdafpjapepfniaa
set_option linter.unusedSimpArgs false
set_option linter.unusedVariables false
open Go Go.RowKit

theorem nimV_two (n l : Nat) : ∃ x : Int, nimV n l = numV x (if nimW n l then 0 else 10) := by
  unfold nimV
  cases nimW n l with
  | true => exact ⟨_, rfl⟩
  | false => exact ⟨_, rfl⟩
set_option maxRecDepth 100000 in
set_option maxHeartbeats 4000000 in
theorem numbers_law (s l0 : Nat) (w : World) (h1 : s ≤ 255) (h2 : l0 ≤ 18446744073709551615) :
    Calls Try.prog 15 #[.int .u8 (s : Int), .int .u64 (l0 : Int)] w (Ret (.bool true) w) := by
  have A2 := Lib.hid (fun W => heap_any l0 W h2)
  have hl := hpN_le l0
  generalize hpN l0 = l at *
  have AL := Lib.hid alive_any
  have eh : (s : Int) % 201 = ((s % 201 : Nat) : Int) := by omega
  have hh : s % 201 ≤ 200 := by omega
  generalize s % 201 = h at *
  have G1 := fun W => Grundy_yes h l W hh hl
  have G2 := fun W => Grundy_yes h (min 1099511627776 (l + 1)) W hh (by omega)
  have em : min (1099511627776 : Int) ((l : Int) + 1) = ((min 1099511627776 (l + 1) : Nat) : Int) := by omega
  have N := fun W => Nim_yes h l W (by omega) hl
  have hmono : gr h (min l h) ≤ gr h (min (min 1099511627776 (l + 1)) h) := gr_mono (by omega) (by omega)
  have hz := gr_zero h (min l h) (by omega)
  rw [nimW_min] at hz
  have hle := (gr_is h (min l h) (by omega)).2
  have hle2 := (gr_is h (min (min 1099511627776 (l + 1)) h) (by omega)).2
  obtain ⟨x, hx⟩ := nimV_two h l
  rw [hx] at N
  clear hx
  have hb1 : gr h (min l h) ≤ l := by omega
  have hb2 : gr h (min l h) ≤ h := by omega
  have hb3 : gr h (min (min 1099511627776 (l + 1)) h) ≤ h := by omega
  clear hle hle2
  generalize gr h (min (min 1099511627776 (l + 1)) h) = v at *
  generalize min 1099511627776 (l + 1) = l2 at *
  generalize gr h (min l h) = u at *
  replace G1 := Lib.hid G1
  replace G2 := Lib.hid G2
  have hmono' : (u : Int) ≤ (v : Int) := by omega
  have hu0 : (0 : Int) ≤ (u : Int) := by omega
  have hu1 : (u : Int) ≤ (l : Int) := by omega
  have hu2 : (u : Int) ≤ (h : Int) := by omega
  cases g : nimW h l
  · have hu : u = 0 := hz.2 g
    rw [g] at N
    replace N := Lib.hid N
    have hu3 : ((u : Int) == 0) = true := by rw [beq_iff_eq]; omega
    clear hz g hu
    go_enter Try.func15, Try.ntmps15
    go_wp2_with (first
      | (go_at_call 38; (with_reducible refine (A2.out _).mono ?_); rintro e w1 ⟨rfl, rfl⟩)
      | (go_at_call 36; (with_reducible refine (G1.out _).mono ?_); rintro e w2 ⟨rfl, hb4⟩; replace hb4 := Lib.hid hb4)
      | (go_at_call 36; (with_reducible refine (G2.out _).mono ?_); rintro e w3 ⟨rfl, hb5⟩; replace hb4 := Lib.hid (nextB hb4.out hb5))
      | (go_at_call 19; refine (N.out _).mono ?_; rintro e w4 ⟨rfl, hb5⟩; replace hb4 := Lib.hid (nextB hb4.out hb5))
      | (go_at_call 23; refine (AL.out _).mono ?_; rintro e w6 ⟨rfl, hb6⟩))
    go_ret
    exact Ret.mk rfl (nextB hb4.out hb6)
  · have hu : u ≠ 0 := fun e => by rw [hz.1 e] at g; cases g
    rw [g] at N
    replace N := Lib.hid N
    have hu3 : ((u : Int) == 0) = false := by rw [beq_eq_false_iff_ne]; omega
    clear hz g hu
    go_enter Try.func15, Try.ntmps15
    go_wp2_with (first
      | (go_at_call 38; (with_reducible refine (A2.out _).mono ?_); rintro e w1 ⟨rfl, rfl⟩)
      | (go_at_call 36; (with_reducible refine (G1.out _).mono ?_); rintro e w2 ⟨rfl, hb4⟩; replace hb4 := Lib.hid hb4)
      | (go_at_call 36; (with_reducible refine (G2.out _).mono ?_); rintro e w3 ⟨rfl, hb5⟩; replace hb4 := Lib.hid (nextB hb4.out hb5))
      | (go_at_call 19; refine (N.out _).mono ?_; rintro e w4 ⟨rfl, hb5⟩; replace hb4 := Lib.hid (nextB hb4.out hb5))
      | (go_at_call 23; refine (AL.out _).mono ?_; rintro e w6 ⟨rfl, hb6⟩))
    go_ret
    exact Ret.mk rfl (nextB hb4.out hb6)
end Go.Proofs.Ytdafpjapepfniaa
