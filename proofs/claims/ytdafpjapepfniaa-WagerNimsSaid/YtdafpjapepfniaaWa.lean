/- Layer 7: plain words: lists of numbers in memory, blocks, and what calls leave. -/
import Derived.Test.YtdafpjapepfniaaProg
import Derived.Test.YtdafpjapepfniaaKb
import Derived.WalkKit
import Derived.WalkSpells
import Derived.WalkLawsBesides
import Derived.Lib.Hide
import Derived.Deep.QuietTactic
import Derived.BigQuiet
import Derived.OneCell
import Derived.RangeFuncBox
namespace Go.Proofs.Ytdafpjapepfniaa
open Go Go.RowKit

/-- A call returned v and turned nothing. -/
def Only (v : Value) (w : World) (e : Ending) (w' : World) : Prop := e = .returned v ∧ w = w'
theorem Only.mk {v v' : Value} {w : World} (h : v' = v) : Only v w (.returned v') w := ⟨by rw [h], rfl⟩
theorem Only.ret {v : Value} {w w' : World} {e : Ending} (h : Only v w e w') : Ret v w e w' := by obtain ⟨rfl, rfl⟩ := h; exact ⟨rfl, Below.refl _ _⟩
theorem onlyE {P : Program} {f : FuncId} {args : Array Value} {w : World} {x : Ext w} {v : Value} (h : Calls P f args x.world (Only v x.world)) :
    Calls P f args x.world fun e w'' => e = .returned v ∧ ∃ y : Ext w, w'' = y.world := callE (h.mono fun _ _ k => k.ret)
/-- The i-th number. -/
def nth (xs : List Int) (i : Nat) : Int := xs.getD i 0
theorem nth_mem {xs : List Int} {i : Nat} (h : i < xs.length) : nth xs i ∈ xs := by
  unfold nth; rw [List.getD_eq_getElem?_getD, List.getElem?_eq_getElem h]; exact List.getElem_mem h
theorem mem_nth {xs : List Int} {x : Int} (h : x ∈ xs) : ∃ i, i < xs.length ∧ nth xs i = x := by
  obtain ⟨i, hi, rfl⟩ := List.mem_iff_getElem.1 h
  exact ⟨i, hi, by simp [nth, hi]⟩
/-- The slice at a holds the numbers xs. -/
def Ints (w : World) (a : Option Addr) (xs : List Int) : Prop :=
  xs.length = 0 ∨ ∃ b off, a = some ⟨b, off, none⟩ ∧ ∀ i, i < xs.length → w.cell? ⟨b, off + i, none⟩ = some (.int .i64 (nth xs i))
theorem Ints.next {w w' : World} {a : Option Addr} {xs : List Int} (h : Ints w a xs) (hb : Below w.heap.size w w') : Ints w' a xs := by
  rcases h with h | ⟨b, off, e, hc⟩
  · exact .inl h
  · exact .inr ⟨b, off, e, fun i hi => cellB hb (hc i hi)⟩
theorem ints_at {w : World} {a : Option Addr} {xs : List Int} (h : Ints w a xs) (hn : 0 < xs.length) :
    ∃ b off, a = some ⟨b, off, none⟩ ∧ ∀ i, i < xs.length → w.cell? ⟨b, off + i, none⟩ = some (.int .i64 (nth xs i)) := by
  rcases h with h | h
  · omega
  · exact h
theorem ext_nth {xs ys : List Int} (h : xs.length = ys.length) (hh : ∀ i, i < xs.length → nth xs i = nth ys i) : xs = ys := by
  apply List.ext_getElem h
  intro i h1 h2
  have := hh i h1
  simpa [nth, h1, h2] using this
/-- Block B holds these cells. -/
def Blk (W : World) (B : Nat) (t : TypeId) (cs : Array Value) : Prop := W.heap[B]? = some (.cells cs t (0, 0))
theorem Blk.lt {W : World} {B : Nat} {t : TypeId} {cs : Array Value} (h : Blk W B t cs) : B < W.heap.size := (Array.getElem?_eq_some_iff.1 h).1
theorem Blk.ext {W W' : World} {B : Nat} {t : TypeId} {cs : Array Value} (h : Blk W B t cs) (hb : Below W.heap.size W W') : Blk W' B t cs := (hb.block _ h.lt).trans h
theorem Blk.c {W : World} {B : Nat} {t : TypeId} {cs : Array Value} (h : Blk W B t cs) (i : Nat) {v : Value} (hv : cs[i]? = some v) : W.cell? ⟨B, i, none⟩ = some v := by unfold Blk at h; simp [World.cell?, h, hv]
theorem Blk.fr {W : World} {B : Nat} {t : TypeId} {cs : Array Value} (h : Blk W B t cs) (i : Nat) : W.frozen? ⟨B, i, none⟩ = false := by unfold Blk at h; simp [World.frozen?, h]
theorem Blk.new (W : World) (t : TypeId) (cs : Array Value) : Blk (W.alloc (.cells cs t)) W.heap.size t cs := heap_alloc_new W _
theorem Blk.alloc {W : World} {B : Nat} {t : TypeId} {cs : Array Value} (h : Blk W B t cs) (o : Obj) : Blk (W.alloc o) B t cs := h.ext (b1 W o)
theorem Blk.other {W : World} {B B' i : Nat} {t : TypeId} {cs : Array Value} (h : Blk W B t cs) (hne : B ≠ B') (u : Value) : Blk (W.setCell ⟨B', i, none⟩ u) B t cs := (Below.heap_setCell W ⟨B', i, none⟩ u B hne).trans h
/-- The list's cells, as a list. -/
def lI (xs : List Int) : List Value := xs.map (Value.int .i64)
theorem lI_length (xs : List Int) : (lI xs).length = xs.length := by simp [lI]
theorem lI_get {xs : List Int} {i : Nat} (h : i < xs.length) : (lI xs)[i]? = some (.int .i64 (nth xs i)) := by simp [lI, nth, h]
theorem own_ints {w : World} {base g n cap : Nat} {e : TypeId} {xs : List Int} (h : w.ownsRow base e 1 (.slice (some ⟨g, 0, none⟩) n cap) n (lI xs)) : xs.length = n ∧ ∀ i, i < n → w.cell? ⟨g, 0 + i, none⟩ = some (.int .i64 (nth xs i)) := by
  have hl : xs.length = n := by have := h.1; rw [lI_length] at this; omega
  exact ⟨hl, fun i hi => by rw [Nat.zero_add, h.cellAt i (by omega), lI_get (by omega)]⟩
/-- Two rows of the call's own, of elements of two types, lie in two blocks. -/
theorem own_apart {w : World} {base base' g n cap n' size size' : Nat} {e e' : TypeId} {v : Value} {xs ys : List Value} (h : w.ownsRow base e size (.slice (some ⟨g, 0, none⟩) n cap) n xs) (h' : w.ownsRow base' e' size' v n' ys) (he : e ≠ e') : v.ownBlock ≠ some g := by
  intro hv
  rcases h'.2 with ⟨rfl, _⟩ | ⟨g', cap', cur', rfl, _, hg', _⟩
  · simp [Value.ownBlock] at hv
  · simp [Value.ownBlock] at hv
    subst hv
    rcases h.2 with ⟨h1, _⟩ | ⟨g2, cap2, cur2, h1, _, hg2, _⟩
    · simp at h1
    · simp only [Value.slice.injEq, Option.some.injEq, Addr.mk.injEq, and_true, true_and] at h1
      obtain ⟨rfl, rfl⟩ := h1
      rw [hg'] at hg2
      simp only [Option.some.injEq, Obj.cells.injEq] at hg2
      exact he hg2.2.1.symm
theorem own_pos {w : World} {base n size : Nat} {e : TypeId} {v : Value} {xs : List Value} (h : w.ownsRow base e size v n xs) (hn : 0 < n) : ∃ g cap, v = .slice (some ⟨g, 0, none⟩) n cap := by
  rcases h.2 with ⟨_, h2⟩ | ⟨g, cap, cur, hv, _⟩
  · omega
  · exact ⟨g, cap, hv⟩
/-- The cell of a block that has just been laid. -/
theorem cell_one_new (w : World) (a : Int) (t : TypeId) : ∀ j u, [Value.int .i64 a][j]? = some u → (w.alloc (.cells #[.int .i64 a] t)).cell? (Addr.add ⟨w.heap.size, 0, none⟩ j) = some u := by
  intro j u hj
  have hl : j < 1 := (List.getElem?_eq_some_iff.1 hj).1
  have ha : Addr.add ⟨w.heap.size, 0, none⟩ j = ⟨w.heap.size, j, none⟩ := by first | (simp [Addr.add]; done) | (simp [Addr.add]; omega)
  rw [ha]
  exact (Blk.new w t _).c j (by rw [← hj]; simp)
theorem own_intsA {w : World} {base n : Nat} {e : TypeId} {v : Value} {xs : List Int} (h : w.ownsRow base e 1 v n (lI xs)) (hn : xs.length = n) : ∃ a c, v = .slice a n c ∧ n ≤ c ∧ Ints w a xs := by
  have h0 := h
  rcases h.2 with ⟨rfl, h2⟩ | ⟨g, cap, cur, rfl, hg, hh, hcap, r⟩
  · exact ⟨none, 0, by rw [h2], by omega, .inl (by omega)⟩
  · refine ⟨some ⟨g, 0, none⟩, cap, rfl, hcap, .inr ⟨g, 0, rfl, fun i hi => ?_⟩⟩
    exact (own_ints h0).2 i (by omega)
theorem lI_snoc (ys : List Int) (y : Int) : lI (ys ++ [y]) = lI ys ++ [.int .i64 y] := by simp [lI]
theorem infoInt : (Try.prog.info? 3).map (fun i => (i.zero, i.size, i.bytes)) = some (some (.int .i64 0), 1, 8) := by kernel_rfl
theorem infoBool : (Try.prog.info? 4).map (fun i => (i.zero, i.size, i.bytes)) = some (some (.bool false), 1, 1) := by kernel_rfl
/-- Cells of bools. -/
def cF (f : Nat → Bool) (m : Nat) : Array Value := ((List.range m).map fun i => Value.bool (f i)).toArray
theorem cF_size (f : Nat → Bool) (m : Nat) : (cF f m).size = m := by simp [cF]
theorem cF_get {f : Nat → Bool} {m i : Nat} (h : i < m) : (cF f m)[i]? = some (.bool (f i)) := by simp [cF, h]
theorem cF_set (f : Nat → Bool) (m k : Nat) (hk : k < m) : (cF (fun i => decide (i < k) && f i) m).set k (.bool (f k)) (by rw [cF_size]; exact hk) = cF (fun i => decide (i < k + 1) && f i) m := by
  apply Array.ext
  · simp [cF]
  · intro i h1 h2
    simp only [Array.size_set, cF_size] at h1
    rw [Array.getElem_set]
    by_cases e : k = i
    · subst e; simp [cF]
    · have : decide (i < k + 1) = decide (i < k) := by rw [decide_eq_decide]; omega
      simp [e, cF, this]
theorem Blk.setF {W : World} {B : Nat} {t : TypeId} {f : Nat → Bool} {m k : Nat} (h : Blk W B t (cF (fun i => decide (i < k) && f i) m)) (hk : k < m) : Blk (W.setCell ⟨B, k, none⟩ (.bool (f k))) B t (cF (fun i => decide (i < k + 1) && f i) m) := by
  unfold Blk at *
  have hlt := (Array.getElem?_eq_some_iff.1 h).1
  have h' : W.heap[B] = .cells (cF (fun i => decide (i < k) && f i) m) t (0, 0) := by simpa [Array.getElem?_eq_getElem hlt] using h
  show (W.heap.modify B _)[B]? = _
  rw [Array.getElem?_eq_getElem (by simpa using hlt), Array.getElem_modify_self, h']
  simp only [← cF_set f m k hk]
  simp [Array.setIfInBounds, cF_size, hk]
theorem make_bools (m : Nat) (hm : m ≤ 1000000) (W : World) : (Instr.makeSlice 84 (.int .i64 (m : Int)) (.int .i64 (m : Int))).run Try.prog W = .ok (.slice (some ⟨W.heap.size, 0, none⟩) m m) (W.alloc (.cells (cF (fun _ => false) m) 4)) := by
  obtain ⟨i0, hi, hz0, hz1, hz2⟩ := info_parts infoBool
  rw [run_make W 84 4 i0 (.bool false) Try.underlying84 hi hz0 .i64 .i64 m m (by omega) (by omega) (by rw [hz2]; omega) (by omega)]
  have e : madeCells (Value.bool false).cells (m * 1) = cF (fun _ => false) m := by
    apply Array.ext'
    simp [madeCells, cF, Value.cells, Nat.mod_one, List.map_const']
  simp only [Int.toNat_natCast, hz1, e]
theorem Blk.setA {W : World} {B i : Nat} {t : TypeId} {cs : Array Value} (h : Blk W B t cs) (v : Value) : Blk (W.setCell ⟨B, i, none⟩ v) B t (cs.setIfInBounds i v) := by
  unfold Blk at *
  have hlt := (Array.getElem?_eq_some_iff.1 h).1
  have h' : W.heap[B] = .cells cs t (0, 0) := by simpa [Array.getElem?_eq_getElem hlt] using h
  show (W.heap.modify B _)[B]? = _
  rw [Array.getElem?_eq_getElem (by simpa using hlt), Array.getElem_modify_self, h']
  simp
theorem grown_trans {a b c : World} {row : Option Nat} (h : a.grownBy b row) (k : b.grownBy c row) : a.grownBy c row :=
  ⟨k.os.trans h.os, k.tape.trans h.tape, k.output.trans h.output, Nat.le_trans h.size k.size, fun i hi hr => (k.block i (Nat.lt_of_lt_of_le hi h.size) hr).trans (h.block i hi hr)⟩
theorem grown_below {a b : World} (h : Below a.heap.size a b) (row : Option Nat) : a.grownBy b row := ⟨h.os, h.tape, h.output, h.size, fun i hi _ => h.block i hi⟩
theorem below_grown {a b : World} {G n : Nat} (h : a.grownBy b (some G)) (hn : n ≤ a.heap.size) (hG : n ≤ G) : Below n a b := ⟨h.os, h.tape, h.output, h.size, fun i hi => h.block i (by omega) (fun e => by cases e; omega)⟩
end Go.Proofs.Ytdafpjapepfniaa
