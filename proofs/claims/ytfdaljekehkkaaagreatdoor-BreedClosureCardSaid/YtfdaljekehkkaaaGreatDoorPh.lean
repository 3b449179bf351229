/- Layer 5, by the specification: Build; are lists the same? -/
import Derived.Test.YtfdaljekehkkaaaGreatDoorPg
import Derived.Test.YtfdaljekehkkaaaGreatDoorNb
namespace Go.Proofs.YtfdaljekehkkaaaGreatDoor
open Go Go.RowKit

theorem bldE_bad {n : Int} {L : List T3} (h0 : memE n L ≠ 0) : bldE n L = ([], memE n L) := by
  unfold bldE
  rw [if_neg h0]
theorem bldE_is {m : Nat} {L : List T3} (h0 : memE m L = 0) : bldE m L = if (bldO (bldT m L)).2 then ((bldO (bldT m L)).1, 0) else ([], 10) := by
  unfold bldE
  rw [if_pos h0, Int.toNat_natCast]
  cases bldT m L <;> rfl
set_option maxRecDepth 100000 in
set_option maxHeartbeats 1000000 in
theorem refBuildTop_any (n : Int) (a : Option Addr) (l c : Nat) (L : List T3) (w : World) (hTr : Trips w a L) (hl : L.length = l) (hl9 : l ≤ 1000) :
    Calls Tryz.prog 24 #[.int .i64 n, .slice a l c] w (Ret (.tuple #[strV (bldE n L).1, .int .i64 (bldE n L).2]) w) := by
  have G := refGiven_any n a l c L w hTr hl hl9
  by_cases h0 : memE n L = 0
  · rw [h0] at G
    obtain ⟨m, rfl, h1, h8, hok, _⟩ := memE_ok h0
    obtain ⟨p, q, _⟩ := full_bd h1 h8
    have hp8 := pw_mono (k := 8) h8
    have h256 : pw 8 = 256 := rfl
    have sh := wrap_shl (k := m) (by omega)
    have hpp := pw_pos m
    have sb : IntKind.i64.wrap (((pw m : Nat) : Int) - 1) = ((pw m - 1 : Nat) : Int) := by rw [IntWalk.i64_in _ (by omega)]; omega
    have B := Lib.hid (fun W hW => refBuild_any a l c L hl hl9 (fun t ht => tri8_of (hok t ht) h8) 300 (pw m - 1) W (by omega) p (by omega) hW)
    change Hid (∀ W, Trips W a L → Calls Tryz.prog 25 _ W (Ret (.tuple #[strV (bldO (bldT m L)).1, .bool (bldO (bldT m L)).2]) W)) at B
    rw [bldE_is h0]
    generalize (bldO (bldT m L)).1 = s at *
    generalize (bldO (bldT m L)).2 = o at *
    replace G := Lib.hid G
    replace hTr := Lib.hid hTr
    clear hok hl h0
    generalize pw m - 1 = f at *
    cases o
    · simp only [Bool.false_eq_true, if_false]
      show Calls _ _ _ _ (Ret (.tuple #[.string ⟨#[]⟩, .int .i64 10]) w)
      go_enter Tryz.func24, Tryz.ntmps24
      go_wp2_with (first
        | (go_at_call 42; (with_reducible refine G.out.mono ?_); rintro e w1 ⟨rfl, hb1⟩)
        | (go_at_call 25; (with_reducible refine (B.out _ (hTr.out.next hb1)).mono ?_); rintro e w2 ⟨rfl, hb2⟩))
      go_ret2
      exact Ret.mk rfl (nextB hb1 hb2)
    · simp only [if_true]
      go_enter Tryz.func24, Tryz.ntmps24
      go_wp2_with (first
        | (go_at_call 42; (with_reducible refine G.out.mono ?_); rintro e w1 ⟨rfl, hb1⟩)
        | (go_at_call 25; (with_reducible refine (B.out _ (hTr.out.next hb1)).mono ?_); rintro e w2 ⟨rfl, hb2⟩))
      go_ret2
      exact Ret.mk rfl (nextB hb1 hb2)
  · rw [bldE_bad h0]
    show Calls _ _ _ _ (Ret (.tuple #[.string ⟨#[]⟩, .int .i64 (memE n L)]) w)
    have hne : (memE n L != 0) = true := by rw [bne_iff_ne]; exact h0
    clear h0
    replace G := Lib.hid G
    generalize memE n L = er at *
    go_enter Tryz.func24, Tryz.ntmps24
    go_wp2_with (go_at_call 42; (with_reducible refine G.out.mono ?_); rintro e w1 ⟨rfl, hb1⟩)
    go_ret2
    exact Ret.mk rfl hb1
set_option maxRecDepth 100000 in
set_option maxHeartbeats 1000000 in
theorem same_eq (a a' : Option Addr) (l c c' : Nat) (L : List T3) (w : World) (h : Trips w a L) (h' : Trips w a' L) (hl : L.length = l) (hl9 : l ≤ 1000) :
    Calls Tryz.prog 9 #[.slice a l c, .slice a' l c'] w (Ret (.bool true) w) := by
  have hA := Lib.hid (fun W (hW : Below w.heap.size w W) => h.next hW)
  have hB := Lib.hid (fun W (hW : Below w.heap.size w W) => h'.next hW)
  replace hl := Lib.hid hl
  clear h h'
  go_enter Tryz.func9, Tryz.ntmps9
  go_wp2
  go_loopw [5] (fun i wr => ∃ k : Nat, k ≤ l ∧ i = .int .i64 k ∧ Below w.heap.size w wr) (fun i _ => l - (intOf i).toNat)
  case atStart => exact ⟨0, Nat.zero_le _, rfl, Below.refl _ _⟩
  case round =>
    obtain ⟨k, hk, rfl, B0⟩ := hrel
    by_cases hlt : k < l
    · have hkl : k < L.length := by rw [hl.out]; exact hlt
      have hki : (k : Int) < (l : Int) := by omega
      obtain ⟨b, off, rfl, hc⟩ := trips_at (hA.out _ B0) (by omega)
      obtain ⟨b', off', rfl, hc'⟩ := trips_at (hB.out _ B0) (by omega)
      obtain ⟨z0, z1, z2⟩ := hc k hkl
      obtain ⟨y0, y1, y2⟩ := hc' k hkl
      generalize tth L k = t at *
      obtain ⟨t0, t1, t2⟩ := t
      dsimp only at z0 z1 z2 y0 y1 y2
      replace z0 := cellX z0
      replace z1 := cellX z1
      replace z2 := cellX z2
      replace y0 := cellX y0
      replace y1 := cellX y1
      replace y2 := cellX y2
      clear hc hc'
      go_wp2
      refine wp_region_ext (by kernel_rfl) (by kernel_rfl) ?_
      repeat (go_big_quiet_step (fail))
      refine wpQuiet_nil ?_
      rintro ⟨w2, hw2⟩
      dsimp only
      clear z0 z1 z2 y0 y1 y2
      go_wp2
      go_roundw
      case rel => exact ⟨k + 1, by omega, by go_num, nextB B0 hw2⟩
      case measure => simp [intOf]; omega
    · obtain rfl : k = l := by omega
      go_wp2
      go_ret
      exact Ret.mk rfl B0
end Go.Proofs.YtfdaljekehkkaaaGreatDoor
