/- PensSheared: Area, both numbers of Count, and Convex do not change if a pen is sheared, turned around, or begun with another post: the walk. -/
import Derived.Test.YtnjegnlfdbbleaaSw
import Derived.Test.YtnjegnlfdbbleaaLp
import Derived.Test.YtnjegnlfdbbleaaEh
namespace Go.Proofs.Ytnjegnlfdbbleaa
open Go Go.RowKit Go.Shelf

/-- The numbers that the program tells of a list of posts that is like a pen. -/
structure Tells (n : Nat) (p : Nat → Int × Int) (w : World) (a : Option Addr) (c : Nat) : Prop where
  area : ∀ W, Below w.heap.size w W → Calls Try.prog 16 #[.slice a n c] W (Ret (.tuple #[.int .i64 (areaI n p), .int .i64 0]) W)
  count : ∀ W, Below w.heap.size w W → Calls Try.prog 21 #[.slice a n c] W (Ret (.tuple #[.int .i64 (borderI n p), .int .i64 (grownI (areaI n p) (borderI n p) (-1)), .int .i64 0]) W)
  convex : ∀ W, Below w.heap.size w W → Calls Try.prog 18 #[.slice a n c] W (Ret (.tuple #[.bool (convB n p), .int .i64 0]) W)
theorem tells (n : Nat) (p q : Nat → Int × Int) (w : World) (a : Option Addr) (c : Nat) (hl : Like n q p) (hp : PenP n p) (h : Pts w a n q) : Tells n p w a c := by
  have hm : n ≤ 4611686018427387904 := by have := hp.2.1; omega
  have hq := hl.pen.2 hp
  refine ⟨fun W hb => ?_, fun W hb => ?_, fun W hb => ?_⟩
  · have := Area_yes a n c q W hm (h.next hb) hq
    rwa [hl.area] at this
  · have := Count_yes a n c q W hm (h.next hb) hq
    rwa [hl.area, hl.border] at this
  · have := ConvexE a n c q W hm (h.next hb)
    rwa [if_pos hq, flat_conv n q (by have := hp.1; omega), hl.conv] at this
theorem like_refl (n : Nat) (p : Nat → Int × Int) : Like n p p := ⟨Iff.rfl, rfl, rfl, rfl⟩
/-- The walk's spelling of a place that runs down. -/
theorem mod_down (f n k : Nat) (hk : k < n) : (0 : Int) ≤ ((f : Int) + (n : Int) - (k : Int)) % (n : Int) ∧ ((f : Int) + (n : Int) - (k : Int)) % (n : Int) < (n : Int) ∧ (((f : Int) + (n : Int) - (k : Int)) % (n : Int)).toNat = (f + n - k) % n := by
  have h := mod_at (f + n - k) n (by omega)
  rwa [show ((f + n - k : Nat) : Int) = (f : Int) + (n : Int) - (k : Int) by omega] at h

set_option maxRecDepth 100000 in
set_option maxHeartbeats 8000000 in
theorem shd_yes (a : Option Addr) (n c : Nat) (p : Nat → Int × Int) (s0 s1 s2 s3 : Int) (f : Nat) (w : World) (h : Pts w a n p) (hp : PenP n p) (hf : f ≤ 255) :
    Calls Try.prog 11 #[.slice a n c, .agg #[.int .i64 s0, .int .i64 s1, .int .i64 s2, .int .i64 s3], .int .u8 f] w (Ret (.bool true) w) := by
  have hn : n ≤ 60 := by have := hp.2.1; omega
  have hm : n ≤ 4611686018427387904 := by omega
  have HF := fun w => few_any a n c w
  simp only [decide_eq_true hn] at HF
  replace HF := Lib.hid HF
  have HI := fun w1 (hb : Below w.heap.size w w1) => isPen_any a n c p w1 hm (h.next hb)
  simp only [decide_eq_true hp] at HI
  replace HI := Lib.hid HI
  have H1 := tells n p p w a c (like_refl n p) hp h
  have hA := Lib.hid H1.area
  have hC := Lib.hid H1.count
  have hX := Lib.hid H1.convex
  have HS : Hid (∀ w1, Below w.heap.size w w1 → _) := Lib.hid (fun w1 (hb : Below w.heap.size w w1) => Sheared_any a n c p s0 s1 s2 s3 w1 hm (h.next hb))
  have h3 : 3 ≤ n := hp.1
  have h10 : n ≤ 10 := hp.2.1
  obtain ⟨i0, hi, hz0, hz1, hz2⟩ := info_parts infoPt
  have I0 := Lib.hid hi
  have I1 := Lib.hid hz0
  have I2 := Lib.hid hz1
  have I3 := Lib.hid hz2
  clear hi hz0 hz1 hz2 H1
  replace hp := Lib.hid hp
  obtain ⟨b, off, rfl, hc⟩ := ptsOf h (by omega)
  replace hc := Lib.hid hc
  clear h
  go_enter Try.func11, Try.ntmps11
  go_wp2_with fail
  have q0 := show (w.alloc (.cells #[.int .i64 s0, .int .i64 s1, .int .i64 s2, .int .i64 s3] 39)).cell? ⟨w.heap.size, 0, none⟩ = some (.int .i64 s0) by go_simp
  have q1 := show (w.alloc (.cells #[.int .i64 s0, .int .i64 s1, .int .i64 s2, .int .i64 s3] 39)).cell? ⟨w.heap.size, 1, none⟩ = some (.int .i64 s1) by go_simp
  have q2 := show (w.alloc (.cells #[.int .i64 s0, .int .i64 s1, .int .i64 s2, .int .i64 s3] 39)).cell? ⟨w.heap.size, 2, none⟩ = some (.int .i64 s2) by go_simp
  have q3 := show (w.alloc (.cells #[.int .i64 s0, .int .i64 s1, .int .i64 s2, .int .i64 s3] 39)).cell? ⟨w.heap.size, 3, none⟩ = some (.int .i64 s3) by go_simp
  have hb0 : Below w.heap.size w (w.alloc (.cells #[.int .i64 s0, .int .i64 s1, .int .i64 s2, .int .i64 s3] 39)) := b1 _ _
  generalize w.alloc (.cells #[.int .i64 s0, .int .i64 s1, .int .i64 s2, .int .i64 s3] 39) = W0 at *
  refine (HF.out _).mono ?_
  rintro e w1 ⟨rfl, hb1⟩
  dsimp only
  have B1 := nextB hb0 hb1
  replace q0 := cellB hb1 q0
  replace q1 := cellB hb1 q1
  replace q2 := cellB hb1 q2
  replace q3 := cellB hb1 q3
  clear hb0 hb1 HF
  go_wp2_with fail
  refine (HI.out _ B1).mono ?_
  rintro e w2 ⟨rfl, hb2⟩
  dsimp only
  replace q0 := cellB hb2 q0
  replace q1 := cellB hb2 q1
  replace q2 := cellB hb2 q2
  replace q3 := cellB hb2 q3
  have B2 := nextB B1 hb2
  clear B1 hb2 HI
  go_wp2
  go_loopw [7, 8] (fun v i wr => ∃ k : Nat, k ≤ n ∧ i = .int .i64 k ∧ wr.ownsRow w2.heap.size 32 2 v k (cellsOf (turnP n p f) k) ∧ Below w2.heap.size w2 wr) (fun _ i _ => n - (intOf i).toNat)
  case atStart => exact ⟨0, by omega, rfl, World.ownsRow_nil _ _ _ _, Below.refl _ _⟩
  case round =>
    obtain ⟨k, hk, rfl, hown, C0⟩ := hrel
    by_cases hlt : k < n
    · have hi0 : (0 : Int) ≤ (k : Int) := by omega
      have hi1 : (k : Int) < (n : Int) := by omega
      obtain ⟨m0, m1, m2⟩ := mod_down f n k hlt
      obtain ⟨e0, e1⟩ := hc.out ((f + n - k) % n) (Nat.mod_lt _ (by omega))
      replace e0 := cellB (nextB B2 C0) e0
      replace e1 := cellB (nextB B2 C0) e1
      go_wp2_with (at_builtin; refine wpList_append_own _ rfl _ _ 22 rfl w2.heap.size 32 i0 (.agg #[.int .i64 0, .int .i64 0]) 2 16 Try.underlying22 I0.out I1.out I2.out I3.out rfl (by decide) _ _ _ rfl (hown.alloc _) ⟨wr.heap.size, 0, none⟩ 1 1 [.int .i64 (turnP n p f k).1, .int .i64 (turnP n p f k).2] rfl rfl (cell_two_new _ _ _ _) (by simp [Value.oneCell']) (by unfold maxLen; omega) (by omega) (by have := C0.size; simp; omega) ?_; intro v' w5 hown5 hgrow _; have hv5 := hown5)
      go_roundw
      case rel => exact ⟨k + 1, by omega, by go_num, by rw [cellsOf_succ]; exact hown5, (C0.alloc C0.size _).grown hgrow (by have := C0.size; simp; omega) (fun g h => (hown.lt g h).1)⟩
      case measure => simp [intOf]; omega
    · obtain rfl : k = n := by omega
      obtain ⟨g, cap, rfl⟩ : ∃ g cap, u7 = .slice (some ⟨g, 0, none⟩) k cap := by
        obtain ⟨m, hm⟩ : ∃ m, k = m + 1 := ⟨k - 1, by omega⟩
        have h := hown
        rw [hm] at h ⊢
        exact ownsRow_succ h
      have hP : Pts wr (some ⟨g, 0, none⟩) k (turnP k p f) := .inr ⟨g, 0, rfl, fun i hi => owns_pts hown i hi⟩
      clear hown
      have hT := tells k p _ wr (some ⟨g, 0, none⟩) cap (like_turned k p f) hp.out hP
      have tA := Lib.hid hT.area
      have tC := Lib.hid hT.count
      have tX := Lib.hid hT.convex
      replace q0 := cellB C0 q0
      replace q1 := cellB C0 q1
      replace q2 := cellB C0 q2
      replace q3 := cellB C0 q3
      have B3 := nextB B2 C0
      clear hT hP C0 B2
      go_wp2_with fail
      refine (HS.out _ B3).mono ?_
      rintro e w3 ⟨hb3, (⟨hsh, g2, c2, rfl, hq⟩ | ⟨hsh, rfl⟩)⟩
      · have hT := tells k p _ w3 (some ⟨g2, 0, none⟩) c2 (like_sh rfl hsh.2.1.2.2 k p hp.out.sm hsh.2.2) hp.out hq
        have sA := Lib.hid hT.area
        have sC := Lib.hid hT.count
        have sX := Lib.hid hT.convex
        clear hT hq hsh q0 q1 q2 q3 HS
        dsimp only
        generalize areaI k p = A at *
        generalize borderI k p = B at *
        generalize grownI A B (-1) = I at *
        generalize convB k p = V at *
        have D0 : Below w3.heap.size w3 w3 := Below.refl _ _
        have D1 := Lib.hid hb3
        have B3' := Lib.hid B3
        clear hb3 B3
        go_wp2_with (first
          | (go_at_call 16; ((with_reducible refine (hA.out _ (nextB B3'.out (nextB D1.out D0))).mono ?_); rintro e w4 ⟨rfl, hb4⟩; replace D0 := nextB D0 hb4; clear hb4))
          | (go_at_call 16; ((with_reducible refine (sA.out _ D0).mono ?_); rintro e w4 ⟨rfl, hb4⟩; replace D0 := nextB D0 hb4; clear hb4))
          | (go_at_call 16; ((with_reducible refine (tA.out _ (nextB D1.out D0)).mono ?_); rintro e w4 ⟨rfl, hb4⟩; replace D0 := nextB D0 hb4; clear hb4))
          | (go_at_call 21; ((with_reducible refine (hC.out _ (nextB B3'.out (nextB D1.out D0))).mono ?_); rintro e w4 ⟨rfl, hb4⟩; replace D0 := nextB D0 hb4; clear hb4))
          | (go_at_call 21; ((with_reducible refine (sC.out _ D0).mono ?_); rintro e w4 ⟨rfl, hb4⟩; replace D0 := nextB D0 hb4; clear hb4))
          | (go_at_call 21; ((with_reducible refine (tC.out _ (nextB D1.out D0)).mono ?_); rintro e w4 ⟨rfl, hb4⟩; replace D0 := nextB D0 hb4; clear hb4))
          | (go_at_call 18; ((with_reducible refine (hX.out _ (nextB B3'.out (nextB D1.out D0))).mono ?_); rintro e w4 ⟨rfl, hb4⟩; replace D0 := nextB D0 hb4; clear hb4))
          | (go_at_call 18; ((with_reducible refine (sX.out _ D0).mono ?_); rintro e w4 ⟨rfl, hb4⟩; replace D0 := nextB D0 hb4; clear hb4))
          | (go_at_call 18; ((with_reducible refine (tX.out _ (nextB D1.out D0)).mono ?_); rintro e w4 ⟨rfl, hb4⟩; replace D0 := nextB D0 hb4; clear hb4))
          | (go_at_call 13; refine (alive_any _).mono ?_; rintro e w4 ⟨rfl, hb4⟩; replace D0 := nextB D0 hb4; clear hb4))
        go_ret
        exact Ret.mk rfl (nextB B3'.out (nextB D1.out D0))
      · clear hsh q0 q1 q2 q3 HS
        dsimp only
        generalize areaI k p = A at *
        generalize borderI k p = B at *
        generalize grownI A B (-1) = I at *
        generalize convB k p = V at *
        have D0 : Below w3.heap.size w3 w3 := Below.refl _ _
        have D1 := Lib.hid hb3
        have B3' := Lib.hid B3
        clear hb3 B3
        go_wp2_with (first
          | (go_at_call 16; ((with_reducible refine (hA.out _ (nextB B3'.out (nextB D1.out D0))).mono ?_); rintro e w4 ⟨rfl, hb4⟩; replace D0 := nextB D0 hb4; clear hb4))
          | (go_at_call 16; ((with_reducible refine (tA.out _ (nextB D1.out D0)).mono ?_); rintro e w4 ⟨rfl, hb4⟩; replace D0 := nextB D0 hb4; clear hb4))
          | (go_at_call 21; ((with_reducible refine (hC.out _ (nextB B3'.out (nextB D1.out D0))).mono ?_); rintro e w4 ⟨rfl, hb4⟩; replace D0 := nextB D0 hb4; clear hb4))
          | (go_at_call 21; ((with_reducible refine (tC.out _ (nextB D1.out D0)).mono ?_); rintro e w4 ⟨rfl, hb4⟩; replace D0 := nextB D0 hb4; clear hb4))
          | (go_at_call 18; ((with_reducible refine (hX.out _ (nextB B3'.out (nextB D1.out D0))).mono ?_); rintro e w4 ⟨rfl, hb4⟩; replace D0 := nextB D0 hb4; clear hb4))
          | (go_at_call 18; ((with_reducible refine (tX.out _ (nextB D1.out D0)).mono ?_); rintro e w4 ⟨rfl, hb4⟩; replace D0 := nextB D0 hb4; clear hb4))
          | (go_at_call 13; refine (alive_any _).mono ?_; rintro e w4 ⟨rfl, hb4⟩; replace D0 := nextB D0 hb4; clear hb4))
        go_ret
        exact Ret.mk rfl (nextB B3'.out (nextB D1.out D0))

set_option maxRecDepth 100000 in
set_option maxHeartbeats 1600000 in
theorem shd_any (a : Option Addr) (n c : Nat) (p : Nat → Int × Int) (s0 s1 s2 s3 : Int) (f : Nat) (w : World) (h : Pts w a n p) (hf : f ≤ 255) :
    Calls Try.prog 11 #[.slice a n c, .agg #[.int .i64 s0, .int .i64 s1, .int .i64 s2, .int .i64 s3], .int .u8 f] w (Ret (.bool true) w) := by
  by_cases hp : PenP n p
  · exact shd_yes a n c p s0 s1 s2 s3 f w h hp hf
  · have HF := fun w => few_any a n c w
    have hb0 : Below w.heap.size w (w.alloc (.cells #[.int .i64 s0, .int .i64 s1, .int .i64 s2, .int .i64 s3] 39)) := Go.Proofs.Ytnjegnlfdbbleaa.b1 _ _
    by_cases hn : n ≤ 60
    · have hm : n ≤ 4611686018427387904 := by omega
      have HI := fun w1 (hb : Below w.heap.size w w1) => isPen_any a n c p w1 hm (h.next hb)
      simp only [decide_eq_false hp] at HI
      simp only [decide_eq_true hn] at HF
      replace HF := Lib.hid HF
      replace HI := Lib.hid HI
      clear h hp
      go_enter Try.func11, Try.ntmps11
      go_wp2_with (first
        | (go_at_call 12; refine (HF.out _).mono ?_; rintro e w1 ⟨rfl, hb1⟩; replace hb1 := nextB hb0 hb1; clear hb0)
        | (go_at_call 15; refine (HI.out _ hb1).mono ?_; rintro e w2 ⟨rfl, hb2⟩; replace hb1 := nextB hb1 hb2; clear hb2)
        | (go_at_call 13; refine (alive_any _).mono ?_; rintro e w2 ⟨rfl, hb2⟩; replace hb1 := nextB hb1 hb2; clear hb2))
      go_ret
      exact Ret.mk rfl hb1
    · simp only [decide_eq_false hn] at HF
      replace HF := Lib.hid HF
      clear h hp
      go_enter Try.func11, Try.ntmps11
      go_wp2_with (first
        | (go_at_call 12; refine (HF.out _).mono ?_; rintro e w1 ⟨rfl, hb1⟩; replace hb1 := nextB hb0 hb1; clear hb0)
        | (go_at_call 13; refine (alive_any _).mono ?_; rintro e w2 ⟨rfl, hb2⟩; replace hb1 := nextB hb1 hb2; clear hb2))
      go_ret
      exact Ret.mk rfl hb1
end Go.Proofs.Ytnjegnlfdbbleaa
