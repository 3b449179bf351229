/- Layer 4, by the program: a spot is taken; the turn after it. -/
import Derived.Test.YtbdhceolchhnjaaDoorAc
namespace Go.Proofs.YtbdhceolchhnjaaDoor
open Go Go.RowKit

/-- The sets behind a move of side s. -/
def tkW (w s i : Nat) : Nat := if s = 0 then w ||| pw i else w
def tkD (d s i : Nat) : Nat := if s = 0 then d else d ||| pw i
theorem or_lt {a i : Nat} (ha : a < 65536) (hi : i < 16) : a ||| pw i < 65536 := Nat.or_lt_two_pow (n := 16) ha (by have := pw_lt hi; simpa [pw] using this)
set_option maxRecDepth 100000 in
theorem taken_any (x y s i : Nat) (hs : s < 2) (hx : x < 65536) (hy : y < 65536) (hi : i < 16) (w : World) :
    Calls Tryd.prog 106 #[pV x y, .int .i64 (s : Nat), .int .i64 (i : Nat)] w (Ret (pV (tkW x s i) (tkD y s i)) w) := by
  have sh := wrap_shl (k := i) (by omega)
  have hp := pw_le (i := i) (by omega)
  obtain rfl | rfl : s = 0 ∨ s = 1 := by omega
  · have o1 := i64_or_nat x (pw i) (by omega) (by omega)
    have hB := (Blk.new w 62 #[.int .i64 (x : Nat), .int .i64 (y : Nat)]).alloc (.cells #[.int .i64 0, .int .i64 0] 62)
    have hR : Blk ((w.alloc (.cells #[.int .i64 (x : Nat), .int .i64 (y : Nat)] 62)).alloc (.cells #[.int .i64 0, .int .i64 0] 62)) (w.heap.size + 1) 62 #[.int .i64 0, .int .i64 0] := by
      have := Blk.new (w.alloc (.cells #[.int .i64 (x : Nat), .int .i64 (y : Nat)] 62)) 62 #[.int .i64 0, .int .i64 0]
      simpa using this
    have hb := b2 w (.cells #[.int .i64 (x : Nat), .int .i64 (y : Nat)] 62) (.cells #[.int .i64 0, .int .i64 0] 62)
    go_enter Tryd.func106, Tryd.ntmps106
    go_wp2
    generalize (w.alloc (.cells #[.int .i64 (x : Nat), .int .i64 (y : Nat)] 62)).alloc (.cells #[.int .i64 0, .int .i64 0] 62) = w1 at *
    have x0 : w1.cell? ⟨w.heap.size, 0, none⟩ = some (.int .i64 (x : Nat)) := hB.c 0 rfl
    replace hB := Lib.hid hB
    replace hR := Lib.hid hR
    replace hb := Lib.hid hb
    refine wp_region_ext_tail 7 (by kernel_rfl) (by kernel_rfl) ?_
    simp only [List.take_succ_cons, List.take_zero, List.drop_succ_cons, List.drop_zero]
    replace x0 := cellX x0
    repeat (go_big_quiet_step (fail))
    refine wpQuiet_nil ?_
    rintro ⟨w2, hw2⟩
    dsimp only
    have hB2 := hB.out.ext hw2
    have hR2 := hR.out.ext hw2
    have hlt := hR2.lt
    have hb2 := nextB hb.out hw2
    clear x0
    have y0 : w2.cell? ⟨w.heap.size, 0, none⟩ = some (.int .i64 (x : Nat)) := hB2.c 0 rfl
    have y1 := hB2.fr 0
    have hS := hB2.setA (i := 0) (.int .i64 ((x ||| pw i : Nat) : Int))
    have z0 : (w2.setCell ⟨w.heap.size, 0, none⟩ (.int .i64 ((x ||| pw i : Nat) : Int))).cell? ⟨w.heap.size, 0, none⟩ = some (.int .i64 ((x ||| pw i : Nat) : Int)) := hS.c 0 rfl
    have z1 : (w2.setCell ⟨w.heap.size, 0, none⟩ (.int .i64 ((x ||| pw i : Nat) : Int))).cell? ⟨w.heap.size, 1, none⟩ = some (.int .i64 ((y : Nat) : Int)) := hS.c 1 rfl
    have hT := hR2.other (B' := w.heap.size) (i := 0) (by omega) (.int .i64 ((x ||| pw i : Nat) : Int))
    have r0 := hT.c 0 rfl
    have r1 := hT.c 1 rfl
    have q0 := hT.fr 0
    have q1 := hT.fr 1
    have hU := hT.set2 (.int .i64 ((x ||| pw i : Nat) : Int)) (.int .i64 ((y : Nat) : Int))
    have s0 := hU.c 0 rfl
    have s1 := hU.c 1 rfl
    have hb3 := Lib.hid (((hb2.setCell (p := ⟨w.heap.size, 0, none⟩) (Nat.le_refl _) (.int .i64 ((x ||| pw i : Nat) : Int))).setCell (p := ⟨w.heap.size + 1, 0, none⟩) (Nat.le_succ _) (.int .i64 ((x ||| pw i : Nat) : Int))).setCell (p := ⟨w.heap.size + 1, 1, none⟩) (Nat.le_succ _) (.int .i64 ((y : Nat) : Int)))
    replace hB2 := Lib.hid hB2
    replace hR2 := Lib.hid hR2
    replace hS := Lib.hid hS
    replace hT := Lib.hid hT
    replace hU := Lib.hid hU
    go_wp2
    refine bodyPost_ret (v := pV (tkW x 0 i) (tkD y 0 i)) (by simp [results, Tryd.results106, go_sem, s0, s1, tkW, tkD]) rfl ?_
    exact Ret.mk rfl hb3.out
  · have o1 := i64_or_nat y (pw i) (by omega) (by omega)
    have hB := (Blk.new w 62 #[.int .i64 (x : Nat), .int .i64 (y : Nat)]).alloc (.cells #[.int .i64 0, .int .i64 0] 62)
    have hR : Blk ((w.alloc (.cells #[.int .i64 (x : Nat), .int .i64 (y : Nat)] 62)).alloc (.cells #[.int .i64 0, .int .i64 0] 62)) (w.heap.size + 1) 62 #[.int .i64 0, .int .i64 0] := by
      have := Blk.new (w.alloc (.cells #[.int .i64 (x : Nat), .int .i64 (y : Nat)] 62)) 62 #[.int .i64 0, .int .i64 0]
      simpa using this
    have hb := b2 w (.cells #[.int .i64 (x : Nat), .int .i64 (y : Nat)] 62) (.cells #[.int .i64 0, .int .i64 0] 62)
    go_enter Tryd.func106, Tryd.ntmps106
    go_wp2
    generalize (w.alloc (.cells #[.int .i64 (x : Nat), .int .i64 (y : Nat)] 62)).alloc (.cells #[.int .i64 0, .int .i64 0] 62) = w1 at *
    have x0 : w1.cell? ⟨w.heap.size, 1, none⟩ = some (.int .i64 (y : Nat)) := hB.c 1 rfl
    replace hB := Lib.hid hB
    replace hR := Lib.hid hR
    replace hb := Lib.hid hb
    refine wp_region_ext_tail 7 (by kernel_rfl) (by kernel_rfl) ?_
    simp only [List.take_succ_cons, List.take_zero, List.drop_succ_cons, List.drop_zero]
    replace x0 := cellX x0
    repeat (go_big_quiet_step (fail))
    refine wpQuiet_nil ?_
    rintro ⟨w2, hw2⟩
    dsimp only
    have hB2 := hB.out.ext hw2
    have hR2 := hR.out.ext hw2
    have hlt := hR2.lt
    have hb2 := nextB hb.out hw2
    clear x0
    have y0 : w2.cell? ⟨w.heap.size, 1, none⟩ = some (.int .i64 (y : Nat)) := hB2.c 1 rfl
    have y1 := hB2.fr 1
    have hS := hB2.setA (i := 1) (.int .i64 ((y ||| pw i : Nat) : Int))
    have z0 : (w2.setCell ⟨w.heap.size, 1, none⟩ (.int .i64 ((y ||| pw i : Nat) : Int))).cell? ⟨w.heap.size, 0, none⟩ = some (.int .i64 ((x : Nat) : Int)) := hS.c 0 rfl
    have z1 : (w2.setCell ⟨w.heap.size, 1, none⟩ (.int .i64 ((y ||| pw i : Nat) : Int))).cell? ⟨w.heap.size, 1, none⟩ = some (.int .i64 ((y ||| pw i : Nat) : Int)) := hS.c 1 rfl
    have hT := hR2.other (B' := w.heap.size) (i := 1) (by omega) (.int .i64 ((y ||| pw i : Nat) : Int))
    have r0 := hT.c 0 rfl
    have r1 := hT.c 1 rfl
    have q0 := hT.fr 0
    have q1 := hT.fr 1
    have hU := hT.set2 (.int .i64 ((x : Nat) : Int)) (.int .i64 ((y ||| pw i : Nat) : Int))
    have s0 := hU.c 0 rfl
    have s1 := hU.c 1 rfl
    have hb3 := Lib.hid (((hb2.setCell (p := ⟨w.heap.size, 1, none⟩) (Nat.le_refl _) (.int .i64 ((y ||| pw i : Nat) : Int))).setCell (p := ⟨w.heap.size + 1, 0, none⟩) (Nat.le_succ _) (.int .i64 ((x : Nat) : Int))).setCell (p := ⟨w.heap.size + 1, 1, none⟩) (Nat.le_succ _) (.int .i64 ((y ||| pw i : Nat) : Int)))
    replace hB2 := Lib.hid hB2
    replace hR2 := Lib.hid hR2
    replace hS := Lib.hid hS
    replace hT := Lib.hid hT
    replace hU := Lib.hid hU
    go_wp2
    refine bodyPost_ret (v := pV (tkW x 1 i) (tkD y 1 i)) (by simp [results, Tryd.results106, go_sem, s0, s1, tkW, tkD]) rfl ?_
    exact Ret.mk rfl hb3.out
theorem Blk.set3 {W : World} {B : Nat} {t : TypeId} {x y z : Value} (h : Blk W B t #[x, y, z]) (u v s : Value) : Blk (((W.setCell ⟨B, 0, none⟩ u).setCell ⟨B, 1, none⟩ v).setCell ⟨B, 2, none⟩ s) B t #[u, v, s] := ((h.setA u).setA v).setA s
set_option maxRecDepth 100000 in
theorem after_any (x y s i : Nat) (hs : s < 2) (hx : x < 65536) (hy : y < 65536) (hi : i < 16) (w : World) :
    Calls Tryd.prog 97 #[tV x y s, .int .i64 (i : Nat)] w (Ret (tV (tkW x s i) (tkD y s i) (1 - s)) w) := by
  have hB := (Blk.new w 65 #[.int .i64 (x : Nat), .int .i64 (y : Nat), .int .i64 (s : Nat)]).alloc (.cells #[.int .i64 0, .int .i64 0, .int .i64 0] 65)
  have hR : Blk ((w.alloc (.cells #[.int .i64 (x : Nat), .int .i64 (y : Nat), .int .i64 (s : Nat)] 65)).alloc (.cells #[.int .i64 0, .int .i64 0, .int .i64 0] 65)) (w.heap.size + 1) 65 #[.int .i64 0, .int .i64 0, .int .i64 0] := by
    have := Blk.new (w.alloc (.cells #[.int .i64 (x : Nat), .int .i64 (y : Nat), .int .i64 (s : Nat)] 65)) 65 #[.int .i64 0, .int .i64 0, .int .i64 0]
    simpa using this
  have hb := b2 w (.cells #[.int .i64 (x : Nat), .int .i64 (y : Nat), .int .i64 (s : Nat)] 65) (.cells #[.int .i64 0, .int .i64 0, .int .i64 0] 65)
  have T := Lib.hid (fun W => taken_any x y s i hs hx hy hi W)
  have O := Lib.hid (fun W => sideOther_any s hs W)
  generalize tkW x s i = u at *
  generalize tkD y s i = v at *
  generalize 1 - s = r at *
  go_enter Tryd.func97, Tryd.ntmps97
  go_wp2
  generalize (w.alloc (.cells #[.int .i64 (x : Nat), .int .i64 (y : Nat), .int .i64 (s : Nat)] 65)).alloc (.cells #[.int .i64 0, .int .i64 0, .int .i64 0] 65) = w1 at *
  have x0 : w1.cell? ⟨w.heap.size, 0, none⟩ = some (.int .i64 (x : Nat)) := hB.c 0 rfl
  have x1 : w1.cell? ⟨w.heap.size, 1, none⟩ = some (.int .i64 (y : Nat)) := hB.c 1 rfl
  have x2 : w1.cell? ⟨w.heap.size, 2, none⟩ = some (.int .i64 (s : Nat)) := hB.c 2 rfl
  replace hR := Lib.hid hR
  replace hb := Lib.hid hb
  clear hB
  refine wp_region_ext_tail 10 (by kernel_rfl) (by kernel_rfl) ?_
  simp only [List.take_succ_cons, List.take_zero, List.drop_succ_cons, List.drop_zero]
  replace x0 := cellX x0
  replace x1 := cellX x1
  replace x2 := cellX x2
  repeat (go_big_quiet_step (first | with_reducible exact callE (T.out _) | with_reducible exact onlyE (O.out _)))
  refine wpQuiet_nil ?_
  rintro ⟨w2, hw2⟩
  dsimp only
  have hR2 := hR.out.ext hw2
  have hlt := hR2.lt
  have hb2 := nextB hb.out hw2
  clear x0 x1 x2
  have q0 := hR2.fr 0
  have q1 := hR2.fr 1
  have q2 := hR2.fr 2
  have r0 := hR2.c 0 rfl
  have r1 := hR2.c 1 rfl
  have r2 := hR2.c 2 rfl
  have hU := hR2.set3 (.int .i64 (u : Nat)) (.int .i64 (v : Nat)) (.int .i64 (r : Nat))
  have s0 := hU.c 0 rfl
  have s1 := hU.c 1 rfl
  have s2 := hU.c 2 rfl
  have hb3 := Lib.hid (((hb2.setCell (p := ⟨w.heap.size + 1, 0, none⟩) (Nat.le_succ _) (.int .i64 (u : Nat))).setCell (p := ⟨w.heap.size + 1, 1, none⟩) (Nat.le_succ _) (.int .i64 (v : Nat))).setCell (p := ⟨w.heap.size + 1, 2, none⟩) (Nat.le_succ _) (.int .i64 (r : Nat)))
  replace hR2 := Lib.hid hR2
  replace hU := Lib.hid hU
  go_wp2
  refine bodyPost_ret (v := tV u v r) (by simp [results, Tryd.results97, go_sem, s0, s1, s2]) rfl ?_
  exact Ret.mk rfl hb3.out
end Go.Proofs.YtbdhceolchhnjaaDoor
