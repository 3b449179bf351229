/- Layer 4, by the program: have the wolves won; the free spots, listed. -/
import Derived.Test.YtbdhceolchhnjaaDoorAf
import Derived.Laws.AppendOwnNone
import Derived.OwnWalk
namespace Go.Proofs.YtbdhceolchhnjaaDoor
open Go Go.RowKit

section
variable (m : Nat) (a : Option Addr) (n c : Nat) (R : List Int) (x y : Nat) (w : World)
theorem won_any (h : Ints w a R) (hn : R.length = n) (hm : n ≤ 1000) (hx : x < 65536) (hR : Sets R) :
    Calls Tryd.prog 48 #[fV m a n c, pV x y] w (Ret (.bool (hasOne R x)) w) := by
  have K := Lib.hid (fun W hW => contains_any a n c R x W hW hn hm hx hR)
  have h := Lib.hid h
  clear hn
  go_enter Tryd.func48, Tryd.ntmps48
  go_wp2_with (go_at_call 74; refine (K.out _ (h.out.next (b2 _ _ _))).mono ?_; rintro e w1 ⟨rfl, hb⟩)
  go_ret
  exact Ret.mk rfl (nextB (b2 _ _ _) hb)
set_option maxRecDepth 100000 in
theorem freeA_any (hm : m ≤ 9) (hx : x < 65536) (hy : y < 65536) :
    Calls Tryd.prog 72 #[fV m a n c, pV x y] w (Ret (.int .i64 (frS m x y : Nat)) w) := by
  have K := Lib.hid (fun W => all_any m a n c hm W)
  have hp := pw_le (i := m) (by omega)
  have hor := i64_or_nat x y (by omega) (by omega)
  have hol : x ||| y < 65536 := Nat.or_lt_two_pow (n := 16) hx hy
  have han : bits .andNot .i64 ((pw m - 1 : Nat) : Int) ((x ||| y : Nat) : Int) = ((frS m x y : Nat) : Int) := i64_andNot_nat _ _ (by omega) (by omega)
  generalize frS m x y = f at *
  generalize pw m - 1 = N at *
  generalize x ||| y = o at *
  have hA := (Blk.new w 60 #[.int .i64 (m : Nat), .slice a n c]).alloc (.cells #[.int .i64 (x : Nat), .int .i64 (y : Nat)] 62)
  have hB : Blk ((w.alloc (.cells #[.int .i64 (m : Nat), .slice a n c] 60)).alloc (.cells #[.int .i64 (x : Nat), .int .i64 (y : Nat)] 62)) (w.heap.size + 1) 62 #[.int .i64 (x : Nat), .int .i64 (y : Nat)] := by
    have := Blk.new (w.alloc (.cells #[.int .i64 (m : Nat), .slice a n c] 60)) 62 #[.int .i64 (x : Nat), .int .i64 (y : Nat)]
    simpa using this
  have hb := b2 w (.cells #[.int .i64 (m : Nat), .slice a n c] 60) (.cells #[.int .i64 (x : Nat), .int .i64 (y : Nat)] 62)
  go_enter Tryd.func72, Tryd.ntmps72
  go_wp2
  generalize (w.alloc (.cells #[.int .i64 (m : Nat), .slice a n c] 60)).alloc (.cells #[.int .i64 (x : Nat), .int .i64 (y : Nat)] 62) = w1 at *
  have x0 := cellX (hA.c 0 rfl)
  have x1 := cellX (hA.c 1 rfl)
  have y0 := cellX (hB.c 0 rfl)
  have y1 := cellX (hB.c 1 rfl)
  clear hA hB
  replace hb := Lib.hid hb
  refine wp_region_ext (by kernel_rfl) (by kernel_rfl) ?_
  repeat (go_big_quiet_step (exact callE (K.out _)))
  refine wpQuiet_nil ?_
  rintro ⟨w2, hw2⟩
  dsimp only
  clear x0 x1 y0 y1
  go_wp2
  go_ret
  exact Ret.mk rfl (nextB hb.out hw2)
end
theorem infoInt' : (Tryd.prog.info? 3).map (fun i => (i.zero, i.size, i.bytes)) = some (some (.int .i64 0), 1, 8) := by kernel_rfl
/-- New numbers were returned. -/
def NewI (L : List Int) (w : World) (e : Ending) (w' : World) : Prop := ∃ v, e = .returned v ∧ w'.ownsRow w.heap.size 3 1 v L.length (lI L) ∧ Below w.heap.size w w'
theorem lNi_len (l : List Nat) : (lNi l).length = l.length := by simp [lNi]
theorem lNi_snoc (l : List Nat) (x : Nat) : lNi (l ++ [x]) = lNi l ++ [(x : Int)] := by simp [lNi]
set_option maxRecDepth 100000 in
set_option maxHeartbeats 4000000 in
theorem freeSpots_any (m : Nat) (a : Option Addr) (n c x y : Nat) (w : World) (hm : m ≤ 9) (hx : x < 65536) (hy : y < 65536) (hT : Tab w) :
    Calls Tryd.prog 47 #[fV m a n c, pV x y] w (NewI (lNi (frL m x y)) w) := by
  obtain ⟨i0, hi, hz0, hz1, hz2⟩ := info_parts infoInt'
  have G0 := Lib.hid hi
  have G1 := Lib.hid hz0
  have G2 := Lib.hid hz1
  have G3 := Lib.hid hz2
  clear hi hz0 hz1 hz2
  rw [frL_bits hm]
  have K := Lib.hid (fun W => freeA_any m a n c x y W hm hx hy)
  have hf9 := frS_lt hm x y
  have hlen : (lNi (bitsL (frS m x y))).length ≤ 9 := by
    rw [lNi_len]
    have := List.length_filter_le (fun i => (frS m x y).testBit i) (List.range 9)
    rw [List.length_range] at this
    exact this
  obtain ⟨f, hf⟩ : ∃ f, Hid (frS m x y = f) := ⟨_, Lib.hid rfl⟩
  rw [hf.out] at K hf9 hlen
  rw [hf.out]
  clear hf
  replace hlen := Lib.hid hlen
  have hT := Lib.hid hT
  go_enter Tryd.func47, Tryd.ntmps47
  go_wp2_with (go_at_call 72; refine (K.out _).mono ?_; rintro e w1 ⟨rfl, hb⟩)
  have B0 := nextB (b2 w _ _) hb
  clear hb K
  go_loopw [5, 6] (fun v i wr => ∃ (z : Nat) (L : List Nat), z < 512 ∧ i = .int .i64 z ∧ L ++ bitsL z = bitsL f ∧ wr.ownsRow w.heap.size 3 1 v (lNi L).length (lI (lNi L)) ∧ Below w.heap.size w wr) (fun _ i _ => (intOf i).toNat)
  case atStart => exact ⟨f, [], hf9, rfl, rfl, World.ownsRow_nil _ _ _ _, B0⟩
  case round =>
    clear B0
    obtain ⟨z, L, hz, rfl, hL, hown, B0⟩ := hrel
    by_cases hz0 : 0 < z
    · obtain ⟨s1, s2, s3⟩ := bits_step z hz hz0
      have hne : ((z : Int) != 0) = true := by rw [bne_iff_ne]; omega
      have hsu : IntKind.i64.wrap ((z : Int) - 1) = ((z - 1 : Nat) : Int) := by rw [IntWalk.i64_in _ (by omega)]; omega
      have han := i64_and_nat z (z - 1) (by omega) (by omega)
      have hcv : IntKind.u64.wrap (z : Int) = (z : Int) := by rw [IntKind.wrap_u64]; omega
      have hLl : (lNi L).length < 9 := by
        have := hlen.out
        rw [← hL, lNi_len, List.length_append, s1, List.length_cons] at this
        rw [lNi_len]; omega
      have hL2 : Hid ((L ++ [lowB z]) ++ bitsL (z &&& (z - 1)) = bitsL f) := Lib.hid (by rw [← hL, s1, List.append_assoc]; rfl)
      have C := Lib.hid (fun W hW => tz_any z hz hz0 W hW)
      generalize lowB z = b at *
      generalize z &&& (z - 1) = z' at *
      replace hL := Lib.hid hL
      replace s1 := Lib.hid s1
      have hT1 := Lib.hid (hT.out.next B0)
      go_wp2_with (first
        | (go_at_call 73; refine (C.out _ hT1.out).mono ?_; rintro e w2 ⟨rfl, rfl⟩)
        | (at_builtin; refine wpList_append_own _ rfl _ _ 22 rfl w.heap.size 3 i0 (.int .i64 0) 1 8 Tryd.underlying22 G0.out G1.out G2.out G3.out rfl (by decide) _ _ _ rfl (hown.alloc _) ⟨_, 0, none⟩ 1 1 [.int .i64 (b : Int)] rfl rfl (cell_one_new _ _ _) (by simp [Value.oneCell']) (by unfold maxLen; omega) (by omega) (by have := B0.size; simp; omega) ?_; intro v' w2 hown2 hgrow _))
      have hs := B0.size
      have B2 := (B0.alloc hs _).grown hgrow (by simp; omega) (fun q hq => by have := (hown.lt q hq).1; omega)
      go_roundw
      case rel => exact ⟨z', L ++ [b], by omega, rfl, hL2.out, by rw [lNi_snoc, List.length_append, lI_snoc]; exact hown2, B2⟩
      case measure => simp [intOf]; omega
    · obtain rfl : z = 0 := by omega
      have h0 : bitsL 0 = [] := by decide
      rw [h0, List.append_nil] at hL
      subst hL
      replace hown := Lib.hid hown
      go_wp2
      go_ret
      exact ⟨_, rfl, hown.out, B0⟩
end Go.Proofs.YtbdhceolchhnjaaDoor
