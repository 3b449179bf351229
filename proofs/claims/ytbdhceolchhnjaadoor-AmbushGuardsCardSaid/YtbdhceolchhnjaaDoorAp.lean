/- Layer 4, by the program: a field and a position, or their error. -/
import Derived.Test.YtbdhceolchhnjaaDoorAo
namespace Go.Proofs.YtbdhceolchhnjaaDoor
open Go Go.RowKit

/-- The error of a field and a position. -/
def pE (x : Int) (R : List Int) (s : ByteArray) : Nat := if fE x R = 0 then (if (s.size : Int) = x ∧ okS s = true then 0 else 5) else fE x R
abbrev noPos : Value := .agg #[.int .i64 0, .int .i64 0]
theorem nf_any (x : Int) (a : Option Addr) (n c : Nat) (R : List Int) (w : World) (h : Ints w a R) (hn : R.length = n) :
    Calls Tryd.prog 51 #[.int .i64 x, .slice a n c] w (Ret (.tuple #[if fE x R = 0 then fV x.toNat a n c else noField, .int .i64 (fE x R : Nat)]) w) := by
  by_cases h1 : x < 1 ∨ 9 < x ∨ 12 < n
  · have hne : fE x R ≠ 0 := by
      unfold fE
      split
      · omega
      · rename_i h2
        rw [if_pos (by omega)]; omega
    rw [if_neg hne]
    exact newField_early a n c R w x hn h1
  · obtain ⟨m, rfl⟩ : ∃ m : Nat, x = m := ⟨x.toNat, by omega⟩
    exact newField_late a n c R w m h hn (by omega) (by omega) (by omega)
theorem pE_lt (x : Int) (R : List Int) (s : ByteArray) : pE x R s < 6 := by
  have := fE_lt x R
  unfold pE
  repeat' split
  all_goals omega
set_option maxRecDepth 100000 in
set_option maxHeartbeats 2000000 in
theorem fieldAt_any (x : Int) (a : Option Addr) (n c : Nat) (R : List Int) (s : ByteArray) (w : World) (h : Ints w a R) (hn : R.length = n) :
    Calls Tryd.prog 68 #[.int .i64 x, .slice a n c, .string s] w (Ret (.tuple #[if pE x R s = 0 then fV x.toNat a n c else noField, if pE x R s = 0 then pV (psB s 119 x.toNat) (psB s 100 x.toNat) else noPos, .int .i64 (pE x R s : Nat)]) w) := by
  have hA : Blk ((w.alloc (.cells #[.int .i64 0, .slice none 0 0] 60)).alloc (.cells #[.int .i64 0, .int .i64 0] 62)) w.heap.size 60 #[.int .i64 0, .slice none 0 0] := (Blk.new w 60 #[.int .i64 0, .slice none 0 0]).alloc (.cells #[.int .i64 0, .int .i64 0] 62)
  have hP : Blk ((w.alloc (.cells #[.int .i64 0, .slice none 0 0] 60)).alloc (.cells #[.int .i64 0, .int .i64 0] 62)) (w.heap.size + 1) 62 #[.int .i64 0, .int .i64 0] := by
    have := Blk.new (w.alloc (.cells #[.int .i64 0, .slice none 0 0] 60)) 62 #[.int .i64 0, .int .i64 0]
    simpa using this
  have hb := b2 w (.cells #[.int .i64 0, .slice none 0 0] 60) (.cells #[.int .i64 0, .int .i64 0] 62)
  have hI := Lib.hid (h.next hb)
  have F := Lib.hid (fun W hW => nf_any x a n c R W hW hn)
  obtain ⟨e1, he1⟩ : ∃ e, Hid (fE x R = e) := ⟨_, Lib.hid rfl⟩
  obtain ⟨e2, he2⟩ : ∃ e, Hid (pE x R s = e) := ⟨_, Lib.hid rfl⟩
  obtain ⟨f1, hf1⟩ : ∃ f, Hid ((if e2 = 0 then fV x.toNat a n c else noField) = f) := ⟨_, Lib.hid rfl⟩
  obtain ⟨g1, hp1⟩ : ∃ p, Hid ((if e2 = 0 then pV (psB s 119 x.toNat) (psB s 100 x.toNat) else noPos) = p) := ⟨_, Lib.hid rfl⟩
  rw [he1.out] at F
  rw [he2.out, hf1.out, hp1.out]
  have hpe : Hid (e2 = if e1 = 0 then (if (s.size : Int) = x ∧ okS s = true then 0 else 5) else e1) := Lib.hid (by rw [← he2.out, ← he1.out]; rfl)
  have he4 : e1 < 4 := by rw [← he1.out]; exact fE_lt x R
  clear h
  by_cases h1 : e1 = 0
  · subst h1
    simp only [if_true] at F
    obtain ⟨hx, hF⟩ := fE_ok he1.out
    obtain ⟨m, hm⟩ : ∃ m, x.toNat = m := ⟨_, rfl⟩
    rw [hm] at hx hF
    subst hx
    have hm9 := hF.le
    have WR := Lib.hid (fun W => isWritten_any s W)
    clear hF hm
    rw [Int.toNat_natCast] at F
    by_cases h2 : s.size = m
    · cases hok : okS s
      · have e5 : Hid (e2 = 5) := Lib.hid (by rw [hpe.out, if_pos rfl, if_neg (by rw [hok]; simp)])
        have f5 : Hid (f1 = noField) := Lib.hid (by rw [← hf1.out, if_neg (by rw [e5.out]; omega)])
        have p5 : Hid (g1 = noPos) := Lib.hid (by rw [← hp1.out, if_neg (by rw [e5.out]; omega)])
        rw [e5.out, f5.out, p5.out]
        rw [hok] at WR
        have d2 : ((s.size : Int) != (m : Int)) = false := by rw [bne_eq_false_iff_eq]; omega
        go_enter Tryd.func68, Tryd.ntmps68
        go_wp2_with (first | (go_at_call 51; refine (F.out _ hI.out).mono ?_; rintro e w2 ⟨rfl, hb2⟩; replace hA := (hA.ext hb2).alloc (.cells #[.int .i64 (m : Nat), .slice a n c] 60); replace hP := (hP.ext hb2).alloc (.cells #[.int .i64 (m : Nat), .slice a n c] 60); have bw := (nextB hb hb2).alloc (nextB hb hb2).size (.cells #[.int .i64 (m : Nat), .slice a n c] 60); have hG := Blk.new w2 60 #[.int .i64 (m : Nat), .slice a n c]) | (go_at_call 90; refine (WR.out _).mono ?_; rintro e w3 ⟨rfl, hb3⟩; replace hA := hA.ext hb3; replace hP := hP.ext hb3; replace hG := hG.ext hb3; replace bw := nextB bw hb3; have hlt := hP.lt; have a0 : (w3).cell? ⟨w.heap.size, 0, none⟩ = some (.int .i64 0) := hA.c 0 rfl; have a1 : (w3).cell? ⟨w.heap.size, 1, none⟩ = some (.slice none 0 0) := hA.c 1 rfl; have q0 := hA.fr 0; have q1 := hA.fr 1; have p0 : (w3).cell? ⟨w.heap.size + 1, 0, none⟩ = some (.int .i64 0) := hP.c 0 rfl; have p1 : (w3).cell? ⟨w.heap.size + 1, 1, none⟩ = some (.int .i64 0) := hP.c 1 rfl; have q2 := hP.fr 0; have q3 := hP.fr 1; have hA2 := hA.set2 (.int .i64 0) (.slice none 0 0); have hP2 := (hP.other (B' := w.heap.size) (i := 0) (by omega) (.int .i64 0)).other (B' := w.heap.size) (i := 1) (by omega) (.slice none 0 0); have s0 : (((w3).setCell ⟨w.heap.size, 0, none⟩ (.int .i64 0)).setCell ⟨w.heap.size, 1, none⟩ (.slice none 0 0)).cell? ⟨w.heap.size + 1, 0, none⟩ = some (.int .i64 0) := hP2.c 0 rfl; have s1 : (((w3).setCell ⟨w.heap.size, 0, none⟩ (.int .i64 0)).setCell ⟨w.heap.size, 1, none⟩ (.slice none 0 0)).cell? ⟨w.heap.size + 1, 1, none⟩ = some (.int .i64 0) := hP2.c 1 rfl; have q4 := hP2.fr 0; have q5 := hP2.fr 1; have hP3 := hP2.set2 (.int .i64 0) (.int .i64 0); have hA3 := (hA2.other (B' := w.heap.size + 1) (i := 0) (by omega) (.int .i64 0)).other (B' := w.heap.size + 1) (i := 1) (by omega) (.int .i64 0); have t0 := hA3.c 0 rfl; have t1 := hA3.c 1 rfl; have t2 := hP3.c 0 rfl; have t3 := hP3.c 1 rfl; have hbz := Lib.hid (((((bw).setCell (p := ⟨w.heap.size, 0, none⟩) (Nat.le_refl _) (.int .i64 0)).setCell (p := ⟨w.heap.size, 1, none⟩) (Nat.le_refl _) (.slice none 0 0)).setCell (p := ⟨w.heap.size + 1, 0, none⟩) (Nat.le_succ _) (.int .i64 0)).setCell (p := ⟨w.heap.size + 1, 1, none⟩) (Nat.le_succ _) (.int .i64 0)); replace hA := Lib.hid hA; replace hP := Lib.hid hP; replace hA2 := Lib.hid hA2; replace hP2 := Lib.hid hP2; replace hP3 := Lib.hid hP3; replace hA3 := Lib.hid hA3))
        refine bodyPost_ret (v := .tuple #[noField, noPos, .int .i64 5]) (by simp [results, Tryd.results68, go_sem, t0, t1, t2, t3]) rfl ?_
        exact Ret.mk rfl hbz.out
      · have e5 : Hid (e2 = 0) := Lib.hid (by rw [hpe.out, if_pos rfl, if_pos ⟨by omega, hok⟩])
        have f5 : Hid (f1 = fV m a n c) := Lib.hid (by rw [← hf1.out, if_pos e5.out]; rfl)
        have p5 : Hid (g1 = pV (psB s 119 m) (psB s 100 m)) := Lib.hid (by rw [← hp1.out, if_pos e5.out]; rfl)
        rw [e5.out, f5.out, p5.out]
        rw [hok] at WR
        have d2 : ((s.size : Int) != (m : Int)) = false := by rw [bne_eq_false_iff_eq]; omega
        have RD := Lib.hid (fun W => read_any s m h2 hm9 W)
        generalize psB s 119 m = u' at *
        generalize psB s 100 m = v' at *
        go_enter Tryd.func68, Tryd.ntmps68
        go_wp2_with (first | (go_at_call 51; refine (F.out _ hI.out).mono ?_; rintro e w2 ⟨rfl, hb2⟩; replace hA := (hA.ext hb2).alloc (.cells #[.int .i64 (m : Nat), .slice a n c] 60); replace hP := (hP.ext hb2).alloc (.cells #[.int .i64 (m : Nat), .slice a n c] 60); have bw := (nextB hb hb2).alloc (nextB hb hb2).size (.cells #[.int .i64 (m : Nat), .slice a n c] 60); have hG := Blk.new w2 60 #[.int .i64 (m : Nat), .slice a n c]) | (go_at_call 90; refine (WR.out _).mono ?_; rintro e w3 ⟨rfl, hb3⟩; replace hA := hA.ext hb3; replace hP := hP.ext hb3; replace hG := hG.ext hb3; replace bw := nextB bw hb3))
        have g0 := cellX (show w3.cell? ⟨w2.heap.size, 0, none⟩ = some (.int .i64 (m : Nat)) from hG.c 0 rfl)
        have g1 := cellX (show w3.cell? ⟨w2.heap.size, 1, none⟩ = some (.slice a n c) from hG.c 1 rfl)
        refine wp_region_ext_tail 3 (by kernel_rfl) (by kernel_rfl) ?_
        simp only [List.take_succ_cons, List.take_zero, List.drop_succ_cons, List.drop_zero]
        repeat (go_big_quiet_step (first | exact rfl | with_reducible exact callE (RD.out _)))
        refine wpQuiet_nil ?_
        rintro ⟨w4, hw4⟩
        dsimp only
        replace hA := hA.ext hw4
        replace hP := hP.ext hw4
        replace bw := nextB bw hw4
        clear g0 g1 hG
        have hlt := hP.lt
        have a0 : (w4).cell? ⟨w.heap.size, 0, none⟩ = some (.int .i64 0) := hA.c 0 rfl
        have a1 : (w4).cell? ⟨w.heap.size, 1, none⟩ = some (.slice none 0 0) := hA.c 1 rfl
        have q0 := hA.fr 0
        have q1 := hA.fr 1
        have p0 : (w4).cell? ⟨w.heap.size + 1, 0, none⟩ = some (.int .i64 0) := hP.c 0 rfl
        have p1 : (w4).cell? ⟨w.heap.size + 1, 1, none⟩ = some (.int .i64 0) := hP.c 1 rfl
        have q2 := hP.fr 0
        have q3 := hP.fr 1
        have hA2 := hA.set2 (.int .i64 (m : Nat)) (.slice a n c)
        have hP2 := (hP.other (B' := w.heap.size) (i := 0) (by omega) (.int .i64 (m : Nat))).other (B' := w.heap.size) (i := 1) (by omega) (.slice a n c)
        have s0 : (((w4).setCell ⟨w.heap.size, 0, none⟩ (.int .i64 (m : Nat))).setCell ⟨w.heap.size, 1, none⟩ (.slice a n c)).cell? ⟨w.heap.size + 1, 0, none⟩ = some (.int .i64 0) := hP2.c 0 rfl
        have s1 : (((w4).setCell ⟨w.heap.size, 0, none⟩ (.int .i64 (m : Nat))).setCell ⟨w.heap.size, 1, none⟩ (.slice a n c)).cell? ⟨w.heap.size + 1, 1, none⟩ = some (.int .i64 0) := hP2.c 1 rfl
        have q4 := hP2.fr 0
        have q5 := hP2.fr 1
        have hP3 := hP2.set2 (.int .i64 (u' : Nat)) (.int .i64 (v' : Nat))
        have hA3 := (hA2.other (B' := w.heap.size + 1) (i := 0) (by omega) (.int .i64 (u' : Nat))).other (B' := w.heap.size + 1) (i := 1) (by omega) (.int .i64 (v' : Nat))
        have t0 := hA3.c 0 rfl
        have t1 := hA3.c 1 rfl
        have t2 := hP3.c 0 rfl
        have t3 := hP3.c 1 rfl
        have hbz := Lib.hid (((((bw).setCell (p := ⟨w.heap.size, 0, none⟩) (Nat.le_refl _) (.int .i64 (m : Nat))).setCell (p := ⟨w.heap.size, 1, none⟩) (Nat.le_refl _) (.slice a n c)).setCell (p := ⟨w.heap.size + 1, 0, none⟩) (Nat.le_succ _) (.int .i64 (u' : Nat))).setCell (p := ⟨w.heap.size + 1, 1, none⟩) (Nat.le_succ _) (.int .i64 (v' : Nat)))
        replace hA := Lib.hid hA
        replace hP := Lib.hid hP
        replace hA2 := Lib.hid hA2
        replace hP2 := Lib.hid hP2
        replace hP3 := Lib.hid hP3
        replace hA3 := Lib.hid hA3
        go_wp2
        refine bodyPost_ret (v := .tuple #[fV m a n c, pV u' v', .int .i64 0]) (by simp [results, Tryd.results68, go_sem, t0, t1, t2, t3]) rfl ?_
        exact Ret.mk rfl hbz.out
    · have e5 : Hid (e2 = 5) := Lib.hid (by rw [hpe.out, if_pos rfl, if_neg (by omega)])
      have f5 : Hid (f1 = noField) := Lib.hid (by rw [← hf1.out, if_neg (by rw [e5.out]; omega)])
      have p5 : Hid (g1 = noPos) := Lib.hid (by rw [← hp1.out, if_neg (by rw [e5.out]; omega)])
      rw [e5.out, f5.out, p5.out]
      have d2 : ((s.size : Int) != (m : Int)) = true := by rw [bne_iff_ne]; omega
      go_enter Tryd.func68, Tryd.ntmps68
      go_wp2_with (go_at_call 51; refine (F.out _ hI.out).mono ?_; rintro e w2 ⟨rfl, hb2⟩; replace hA := (hA.ext hb2).alloc (.cells #[.int .i64 (m : Nat), .slice a n c] 60); replace hP := (hP.ext hb2).alloc (.cells #[.int .i64 (m : Nat), .slice a n c] 60); have bw := (nextB hb hb2).alloc (nextB hb hb2).size (.cells #[.int .i64 (m : Nat), .slice a n c] 60); have hlt := hP.lt; have a0 : (w2.alloc (.cells #[.int .i64 (m : Nat), .slice a n c] 60)).cell? ⟨w.heap.size, 0, none⟩ = some (.int .i64 0) := hA.c 0 rfl; have a1 : (w2.alloc (.cells #[.int .i64 (m : Nat), .slice a n c] 60)).cell? ⟨w.heap.size, 1, none⟩ = some (.slice none 0 0) := hA.c 1 rfl; have q0 := hA.fr 0; have q1 := hA.fr 1; have p0 : (w2.alloc (.cells #[.int .i64 (m : Nat), .slice a n c] 60)).cell? ⟨w.heap.size + 1, 0, none⟩ = some (.int .i64 0) := hP.c 0 rfl; have p1 : (w2.alloc (.cells #[.int .i64 (m : Nat), .slice a n c] 60)).cell? ⟨w.heap.size + 1, 1, none⟩ = some (.int .i64 0) := hP.c 1 rfl; have q2 := hP.fr 0; have q3 := hP.fr 1; have hA2 := hA.set2 (.int .i64 0) (.slice none 0 0); have hP2 := (hP.other (B' := w.heap.size) (i := 0) (by omega) (.int .i64 0)).other (B' := w.heap.size) (i := 1) (by omega) (.slice none 0 0); have s0 : (((w2.alloc (.cells #[.int .i64 (m : Nat), .slice a n c] 60)).setCell ⟨w.heap.size, 0, none⟩ (.int .i64 0)).setCell ⟨w.heap.size, 1, none⟩ (.slice none 0 0)).cell? ⟨w.heap.size + 1, 0, none⟩ = some (.int .i64 0) := hP2.c 0 rfl; have s1 : (((w2.alloc (.cells #[.int .i64 (m : Nat), .slice a n c] 60)).setCell ⟨w.heap.size, 0, none⟩ (.int .i64 0)).setCell ⟨w.heap.size, 1, none⟩ (.slice none 0 0)).cell? ⟨w.heap.size + 1, 1, none⟩ = some (.int .i64 0) := hP2.c 1 rfl; have q4 := hP2.fr 0; have q5 := hP2.fr 1; have hP3 := hP2.set2 (.int .i64 0) (.int .i64 0); have hA3 := (hA2.other (B' := w.heap.size + 1) (i := 0) (by omega) (.int .i64 0)).other (B' := w.heap.size + 1) (i := 1) (by omega) (.int .i64 0); have t0 := hA3.c 0 rfl; have t1 := hA3.c 1 rfl; have t2 := hP3.c 0 rfl; have t3 := hP3.c 1 rfl; have hbz := Lib.hid (((((bw).setCell (p := ⟨w.heap.size, 0, none⟩) (Nat.le_refl _) (.int .i64 0)).setCell (p := ⟨w.heap.size, 1, none⟩) (Nat.le_refl _) (.slice none 0 0)).setCell (p := ⟨w.heap.size + 1, 0, none⟩) (Nat.le_succ _) (.int .i64 0)).setCell (p := ⟨w.heap.size + 1, 1, none⟩) (Nat.le_succ _) (.int .i64 0)); replace hA := Lib.hid hA; replace hP := Lib.hid hP; replace hA2 := Lib.hid hA2; replace hP2 := Lib.hid hP2; replace hP3 := Lib.hid hP3; replace hA3 := Lib.hid hA3)
      refine bodyPost_ret (v := .tuple #[noField, noPos, .int .i64 5]) (by simp [results, Tryd.results68, go_sem, t0, t1, t2, t3]) rfl ?_
      exact Ret.mk rfl hbz.out

  · have e5 : Hid (e2 = e1) := Lib.hid (by rw [hpe.out, if_neg h1])
    have f5 : Hid (f1 = noField) := Lib.hid (by rw [← hf1.out, if_neg (by rw [e5.out]; exact h1)])
    have p5 : Hid (g1 = noPos) := Lib.hid (by rw [← hp1.out, if_neg (by rw [e5.out]; exact h1)])
    rw [e5.out, f5.out, p5.out]
    rw [if_neg h1] at F
    have d1 : ((e1 : Int) != 0) = true := by rw [bne_iff_ne]; omega
    go_enter Tryd.func68, Tryd.ntmps68
    go_wp2_with (go_at_call 51; refine (F.out _ hI.out).mono ?_; rintro e w2 ⟨rfl, hb2⟩; replace hA := (hA.ext hb2).alloc (.cells #[.int .i64 0, .slice none 0 0] 60); replace hP := (hP.ext hb2).alloc (.cells #[.int .i64 0, .slice none 0 0] 60); have bw := (nextB hb hb2).alloc (nextB hb hb2).size (.cells #[.int .i64 0, .slice none 0 0] 60); have hlt := hP.lt; have a0 : (w2.alloc (.cells #[.int .i64 0, .slice none 0 0] 60)).cell? ⟨w.heap.size, 0, none⟩ = some (.int .i64 0) := hA.c 0 rfl; have a1 : (w2.alloc (.cells #[.int .i64 0, .slice none 0 0] 60)).cell? ⟨w.heap.size, 1, none⟩ = some (.slice none 0 0) := hA.c 1 rfl; have q0 := hA.fr 0; have q1 := hA.fr 1; have p0 : (w2.alloc (.cells #[.int .i64 0, .slice none 0 0] 60)).cell? ⟨w.heap.size + 1, 0, none⟩ = some (.int .i64 0) := hP.c 0 rfl; have p1 : (w2.alloc (.cells #[.int .i64 0, .slice none 0 0] 60)).cell? ⟨w.heap.size + 1, 1, none⟩ = some (.int .i64 0) := hP.c 1 rfl; have q2 := hP.fr 0; have q3 := hP.fr 1; have hA2 := hA.set2 (.int .i64 0) (.slice none 0 0); have hP2 := (hP.other (B' := w.heap.size) (i := 0) (by omega) (.int .i64 0)).other (B' := w.heap.size) (i := 1) (by omega) (.slice none 0 0); have s0 : (((w2.alloc (.cells #[.int .i64 0, .slice none 0 0] 60)).setCell ⟨w.heap.size, 0, none⟩ (.int .i64 0)).setCell ⟨w.heap.size, 1, none⟩ (.slice none 0 0)).cell? ⟨w.heap.size + 1, 0, none⟩ = some (.int .i64 0) := hP2.c 0 rfl; have s1 : (((w2.alloc (.cells #[.int .i64 0, .slice none 0 0] 60)).setCell ⟨w.heap.size, 0, none⟩ (.int .i64 0)).setCell ⟨w.heap.size, 1, none⟩ (.slice none 0 0)).cell? ⟨w.heap.size + 1, 1, none⟩ = some (.int .i64 0) := hP2.c 1 rfl; have q4 := hP2.fr 0; have q5 := hP2.fr 1; have hP3 := hP2.set2 (.int .i64 0) (.int .i64 0); have hA3 := (hA2.other (B' := w.heap.size + 1) (i := 0) (by omega) (.int .i64 0)).other (B' := w.heap.size + 1) (i := 1) (by omega) (.int .i64 0); have t0 := hA3.c 0 rfl; have t1 := hA3.c 1 rfl; have t2 := hP3.c 0 rfl; have t3 := hP3.c 1 rfl; have hbz := Lib.hid (((((bw).setCell (p := ⟨w.heap.size, 0, none⟩) (Nat.le_refl _) (.int .i64 0)).setCell (p := ⟨w.heap.size, 1, none⟩) (Nat.le_refl _) (.slice none 0 0)).setCell (p := ⟨w.heap.size + 1, 0, none⟩) (Nat.le_succ _) (.int .i64 0)).setCell (p := ⟨w.heap.size + 1, 1, none⟩) (Nat.le_succ _) (.int .i64 0)); replace hA := Lib.hid hA; replace hP := Lib.hid hP; replace hA2 := Lib.hid hA2; replace hP2 := Lib.hid hP2; replace hP3 := Lib.hid hP3; replace hA3 := Lib.hid hA3)
    refine bodyPost_ret (v := .tuple #[noField, noPos, .int .i64 (e1 : Nat)]) (by simp [results, Tryd.results68, go_sem, t0, t1, t2, t3]) rfl ?_
    exact Ret.mk rfl hbz.out

end Go.Proofs.YtbdhceolchhnjaaDoor
