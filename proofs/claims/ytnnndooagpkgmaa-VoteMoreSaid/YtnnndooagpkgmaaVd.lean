/- Layer 3, by the program: a game is made by a function that tells of each set whether it wins. -/
import Derived.Test.YtnnndooagpkgmaaVc
namespace Go.Proofs.Ytnnndooagpkgmaa
open Go Go.RowKit

/-- Cells of bools. -/
def cF (f : Nat → Bool) (m : Nat) : Array Value := ((List.range m).map fun i => Value.bool (f i)).toArray
theorem cF_size (f : Nat → Bool) (m : Nat) : (cF f m).size = m := by simp [cF]
theorem cF_get {f : Nat → Bool} {m i : Nat} (h : i < m) : (cF f m)[i]? = some (.bool (f i)) := by simp [cF, h]
theorem cF_set (f : Nat → Bool) (m k : Nat) (hk : k < m) : (cF (fun i => decide (i < k) && f i) m).set k (.bool (f k)) (by rw [cF_size]; exact hk) = cF (fun i => decide (i < k + 1) && f i) m := by
  apply Array.ext
  · simp [cF]
  · intro i h1 h2
    simp only [Array.size_set, cF_size] at h1
    rw [Array.getElem_set]
    by_cases e : k = i
    · subst e; simp [cF]
    · have : decide (i < k + 1) = decide (i < k) := by rw [decide_eq_decide]; omega
      simp [e, cF, this]
theorem Blk.setF {W : World} {B : Nat} {t : TypeId} {f : Nat → Bool} {m k : Nat} (h : Blk W B t (cF (fun i => decide (i < k) && f i) m)) (hk : k < m) : Blk (W.setCell ⟨B, k, none⟩ (.bool (f k))) B t (cF (fun i => decide (i < k + 1) && f i) m) := by
  unfold Blk at *
  have hlt := (Array.getElem?_eq_some_iff.1 h).1
  have h' : W.heap[B] = .cells (cF (fun i => decide (i < k) && f i) m) t (0, 0) := by simpa [Array.getElem?_eq_getElem hlt] using h
  show (W.heap.modify B _)[B]? = _
  rw [Array.getElem?_eq_getElem (by simpa using hlt), Array.getElem_modify_self, h']
  simp only [← cF_set f m k hk]
  simp [Array.setIfInBounds, cF_size, hk]
theorem make_bools (m : Nat) (hm : m ≤ 1000000) (W : World) : (Instr.makeSlice 58 (.int .i64 (m : Int)) (.int .i64 (m : Int))).run Try.prog W = .ok (.slice (some ⟨W.heap.size, 0, none⟩) m m) (W.alloc (.cells (cF (fun _ => false) m) 4)) := by
  obtain ⟨i0, hi, hz0, hz1, hz2⟩ := info_parts infoBool
  rw [run_make W 58 4 i0 (.bool false) Try.underlying58 hi hz0 .i64 .i64 m m (by omega) (by omega) (by rw [hz2]; omega) (by omega)]
  have e : madeCells (Value.bool false).cells (m * 1) = cF (fun _ => false) m := by
    apply Array.ext'
    simp [madeCells, cF, Value.cells, Nat.mod_one, List.map_const']
  simp only [Int.toNat_natCast, hz1, e]
/-- Block B tells of each set whether it wins. -/
def Bools (w : World) (B N : Nat) (f : Nat → Bool) : Prop := ∀ i, i < N → w.cell? ⟨B, i, none⟩ = some (.bool (f i))
theorem Bools.next {w w' : World} {B N : Nat} {f : Nat → Bool} (h : Bools w B N f) (hb : Below w.heap.size w w') : Bools w' B N f := fun i hi => cellB hb (h i hi)
theorem Bools.other {w : World} {B N B' i : Nat} {f : Nat → Bool} (h : Bools w B N f) (hne : B ≠ B') (v : Value) : Bools (w.setCell ⟨B', i, none⟩ v) B N f := fun k hk =>
  (World.cell?_of_block (a := ⟨B, k, none⟩) (Below.heap_setCell w ⟨B', i, none⟩ v B hne)).trans (h k hk)
abbrev gV (n B N : Nat) : Value := .agg #[.int .i64 (n : Nat), .slice (some ⟨B, 0, none⟩) N N]
/-- A call returned a game. -/
def GameR (n : Nat) (f : Nat → Bool) (w : World) (e : Ending) (w' : World) : Prop := ∃ B, e = .returned (gV n B (pw n)) ∧ w.heap.size ≤ B ∧ Bools w' B (pw n) f ∧ Below w.heap.size w w'
theorem Bools.of {w : World} {B N : Nat} {t : TypeId} {f g : Nat → Bool} (h : Blk w B t (cF f N)) (hfg : ∀ i, i < N → f i = g i) : Bools w B N g := fun i hi => by
  rw [← hfg i hi]; exact h.c i (cF_get hi)
theorem Blk.setA {W : World} {B i : Nat} {t : TypeId} {cs : Array Value} (h : Blk W B t cs) (v : Value) : Blk (W.setCell ⟨B, i, none⟩ v) B t (cs.setIfInBounds i v) := by
  unfold Blk at *
  have hlt := (Array.getElem?_eq_some_iff.1 h).1
  have h' : W.heap[B] = .cells cs t (0, 0) := by simpa [Array.getElem?_eq_getElem hlt] using h
  show (W.heap.modify B _)[B]? = _
  rw [Array.getElem?_eq_getElem (by simpa using hlt), Array.getElem_modify_self, h']
  simp
theorem Blk.set2 {W : World} {B : Nat} {t : TypeId} {x y : Value} (h : Blk W B t #[x, y]) (u v : Value) : Blk ((W.setCell ⟨B, 0, none⟩ u).setCell ⟨B, 1, none⟩ v) B t #[u, v] := (h.setA u).setA v
def NewIn (n : Nat) (f : Nat → Bool) (N : Nat) (w : World) (i : Value) (wr : World) : Prop :=
  ∃ k : Nat, k ≤ N ∧ i = .int .i64 k ∧ Blk wr (w.heap.size + 1) 4 (cF (fun i => decide (i < k) && f i) N) ∧ Blk wr w.heap.size 60 #[.int .i64 0, .slice none 0 0] ∧
    Blk wr (w.heap.size + 1 + 1) 60 #[.int .i64 (n : Nat), .slice (some ⟨w.heap.size + 1, 0, none⟩) N N] ∧ Below w.heap.size w wr
set_option maxRecDepth 100000 in
set_option maxHeartbeats 4000000 in
theorem newGame_any (n : Nat) (fn : FuncId) (caps : Array Value) (f : Nat → Bool) (w : World) (h1 : 1 ≤ n) (h8 : n ≤ 8)
    (HE : ∀ args W, (callFunc fn args).run Try.prog W = .ok (.enter fn args) W) (H : ∀ W, Below w.heap.size w W → ∀ s : Nat, s < pw n → Calls Try.prog fn (#[.int .i64 (s : Nat)] ++ caps) W (Ret (.bool (f s)) W)) :
    Calls Try.prog 58 #[.int .i64 (n : Nat), .func (.func fn) #[] caps] w (GameR n f w) := by
  have sh := wrap_shl (k := n) (by omega)
  have hp8 : pw n ≤ 256 := by have := pw_mono h8; simpa [pw] using this
  have hp1 := pw_pos n
  have hmk := make_bools (pw n) (by omega)
  obtain ⟨N, hN⟩ : ∃ N, Hid (pw n = N) := ⟨_, Lib.hid rfl⟩
  rw [hN.out] at sh hp8 hp1 hmk H
  replace H := Lib.hid H
  unfold GameR
  rw [hN.out]
  go_enter Try.func58, Try.ntmps58
  go_wp2
  go_loopw [6, 15] (fun _ i wr => NewIn n f N w i wr) (fun _ i _ => N - (intOf i).toNat)
  case atStart =>
    refine ⟨0, by omega, rfl, ?_, ?_, ?_, b3 _ _ _ _⟩
    · have := Blk.new (w.alloc (.cells #[.int .i64 0, .slice none 0 0] 60)) 4 (cF (fun _ => false) N)
      exact Blk.alloc (by simpa using this) _
    · exact ((Blk.new w _ _).alloc _).alloc _
    · have := Blk.new ((w.alloc (.cells #[.int .i64 0, .slice none 0 0] 60)).alloc (.cells (cF (fun _ => false) N) 4)) 60 #[.int .i64 (n : Nat), .slice (some ⟨w.heap.size + 1, 0, none⟩) N N]
      simpa using this
  case round =>
    obtain ⟨k, hk, rfl, hA, hR, hG, B0⟩ := hrel
    have g1 := hG.c 1 rfl
    by_cases hlt : k < N
    · have C := H.out
      have hki : (k : Int) < (N : Int) := by omega
      have hA' := Lib.hid hA
      have hR' := Lib.hid hR
      have hG' := Lib.hid hG
      clear hA hR hG
      go_wp2
      refine wp_region_ext_tail 7 (by kernel_rfl) (by kernel_rfl) ?_
      simp only [List.take_succ_cons, List.take_zero, List.drop_succ_cons, List.drop_zero]
      replace g1 := cellX g1
      have K := Lib.hid (fun (x : Ext wr) => callE (C x.world (nextB B0 x.ok) k hlt))
      clear C
      repeat (go_big_quiet_step (exact K.out _))
      refine wpQuiet_nil ?_
      rintro ⟨w1, hw1⟩
      dsimp only
      have hA := hA'.out.ext hw1
      have hR := hR'.out.ext hw1
      have hG := hG'.out.ext hw1
      replace B0 := nextB B0 hw1
      have a1 := hA.c k (cF_get hlt)
      have a2 := hA.fr k
      clear g1 K
      have hS := hA.setF hlt
      have hs := B0.size
      replace hA := Lib.hid hA
      replace hS := Lib.hid hS
      go_wp2
      go_roundw
      case rel => exact ⟨k + 1, by omega, by go_num, hS.out, hR.other (by omega) _, hG.other (by omega) _, B0.setCell (by simp) _⟩
      case measure => simp [intOf]; omega
    · obtain rfl : k = N := by omega
      have g0 := hG.c 0 rfl
      have r0 := hR.c 0 rfl
      have r1 := hR.c 1 rfl
      have q0 := hR.fr 0
      have q1 := hR.fr 1
      have hS := hR.set2 (.int .i64 (n : Nat)) (.slice (some ⟨w.heap.size + 1, 0, none⟩) k k)
      have s0 := hS.c 0 rfl
      have s1 := hS.c 1 rfl
      have hA2 := Lib.hid ((hA.other (B' := w.heap.size) (i := 0) (by omega) (.int .i64 (n : Nat))).other (B' := w.heap.size) (i := 1) (by omega) (.slice (some ⟨w.heap.size + 1, 0, none⟩) k k))
      replace hR := Lib.hid hR
      replace hS := Lib.hid hS
      replace hG := Lib.hid hG
      go_wp2
      refine bodyPost_ret (v := gV n (w.heap.size + 1) k) (by simp [results, Try.results58, go_sem, s0, s1]) rfl ?_
      refine ⟨_, rfl, Nat.le_succ _, Bools.of (f := fun i => decide (i < k) && f i) hA2.out (fun i hi => by simp [hi]), (B0.setCell (Nat.le_refl _) _).setCell (Nat.le_refl _) _⟩
end Go.Proofs.Ytnnndooagpkgmaa
