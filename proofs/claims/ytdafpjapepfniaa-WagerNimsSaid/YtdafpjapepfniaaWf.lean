/- Layer 7, by the program: heaps as values; matches, twoHeaps; what goes through the winning moves of a game. -/
import Derived.Test.YtdafpjapepfniaaWe
import Derived.Test.YtdafpjapepfniaaWc
import Derived.Laws.EntriesVeiled
namespace Go.Proofs.Ytdafpjapepfniaa
open Go Go.RowKit Go.Shelf
attribute [local go_sem] Oper.semAt_some

/-- What lies before a player. -/
structure Hp where
  (s0 s1 s2 s3 s4 s5 lim : Int)
deriving DecidableEq
/-- Its cells. -/
abbrev hC (h : Hp) : Array Value := #[.int .i64 h.s0, .int .i64 h.s1, .int .i64 h.s2, .int .i64 h.s3, .int .i64 h.s4, .int .i64 h.s5, .int .i64 h.lim]
abbrev hV (h : Hp) : Value := .agg (hC h)
theorem matches_any (n l : Int) (w : World) : Calls Try.prog 49 #[.int .i64 n, .int .i64 l] w (Ret (hV ⟨n, 0, 0, 0, 0, 0, l⟩) w) := by
  go_enter Try.func49, Try.ntmps49
  go_wp2
  exact bodyPost_ret (v := hV ⟨n, 0, 0, 0, 0, 0, l⟩) (by simp [results, Try.results49, go_sem]) rfl (Ret.mk rfl (b2 _ _ _))
theorem twoHeaps_any (n l : Int) (w : World) : Calls Try.prog 52 #[.int .i64 n, .int .i64 l] w (Ret (hV ⟨n, l, 0, 0, 0, 0, 0⟩) w) := by
  go_enter Try.func52, Try.ntmps52
  go_wp2
  exact bodyPost_ret (v := hV ⟨n, l, 0, 0, 0, 0, 0⟩) (by simp [results, Try.results52, go_sem]) rfl (Ret.mk rfl (b2 _ _ _))
/-- A function as a value. -/
abbrev fnV (f : Nat) (caps : Array Value) : Value := .func (.func f) #[] caps
/-- A game: its moves, and who wins. -/
abbrev gmC (mf : Nat) (mc : Array Value) (wf : Nat) (wc : Array Value) : Array Value := #[fnV mf mc, fnV wf wc]
abbrev gmV (mf : Nat) (mc : Array Value) (wf : Nat) (wc : Array Value) : Value := .agg (gmC mf mc wf wc)
theorem fibonacciNim_any (w : World) : Calls Try.prog 47 #[] w (Ret (gmV 72 #[] 74 #[]) w) := by
  go_enter Try.func47, Try.ntmps47
  go_wp2
  exact bodyPost_ret (v := gmV 72 #[] 74 #[]) (by simp [results, Try.results47, go_sem]) rfl (Ret.mk rfl (b1 _ _))
theorem euclidsGame_any (w : World) : Calls Try.prog 51 #[] w (Ret (gmV 75 #[] 76 #[]) w) := by
  go_enter Try.func51, Try.ntmps51
  go_wp2
  exact bodyPost_ret (v := gmV 75 #[] 76 #[]) (by simp [results, Try.results51, go_sem]) rfl (Ret.mk rfl (b1 _ _))
theorem winning_any (mf : Nat) (mc : Array Value) (wf : Nat) (wc : Array Value) (h : Hp) (w : World) :
    Calls Try.prog 57 #[gmV mf mc wf wc, hV h] w fun e w' => e = .returned (fnV 80 #[.pointer (some ⟨w.heap.size, 0, none⟩), .pointer (some ⟨w.heap.size + 1, 0, none⟩)]) ∧
      w' = (w.alloc (.cells (gmC mf mc wf wc) 65)).alloc (.cells (hC h) 60) := by
  go_enter Try.func57, Try.ntmps57
  go_wp2
  go_ret
  exact ⟨by simp, rfl⟩
/-- The cells of heaps, one after another. -/
def hL (L : List Hp) : List Value := L.flatMap fun h => (hC h).toList
theorem hL_nil : hL [] = [] := rfl
theorem hL_snoc (L : List Hp) (h : Hp) : hL (L ++ [h]) = hL L ++ (hC h).toList := by simp [hL]
theorem hL_length (L : List Hp) : (hL L).length = L.length * 7 := by
  induction L with
  | nil => rfl
  | cons h L ih => show ((hC h).toList ++ hL L).length = _; rw [List.length_append, ih]; simp; omega
/-- The i-th heaps. -/
def hAt (L : List Hp) (i : Nat) : Hp := L.getD i ⟨0, 0, 0, 0, 0, 0, 0⟩
theorem hL_get {L : List Hp} {i j : Nat} (hi : i < L.length) (hj : j < 7) : (hL L)[i * 7 + j]? = (hC (hAt L i))[j]? := by
  induction L generalizing i with
  | nil => simp at hi
  | cons h L ih =>
    have e : hL (h :: L) = (hC h).toList ++ hL L := rfl
    rw [e]
    cases i with
    | zero => rw [List.getElem?_append_left (by simp; omega)]; simp [hAt]
    | succ i =>
      rw [List.getElem?_append_right (by simp; omega), show (i + 1) * 7 + j - (hC h).toList.length = i * 7 + j by simp; omega, ih (by simpa using hi)]
      simp [hAt]
/-- Block g holds heaps, and perhaps more. -/
def HBlk (w : World) (g : Nat) (L : List Hp) : Prop := ∃ cur : Array Value, Blk w g 60 cur ∧ cur.toList.take (L.length * 7) = hL L
theorem HBlk.c {w : World} {g : Nat} {L : List Hp} (h : HBlk w g L) {i : Nat} (hi : i < L.length) : ∀ j, j < 7 → w.cell? ⟨g, i * 7 + j, none⟩ = (hC (hAt L i))[j]? := by
  intro j hj
  obtain ⟨cur, hb, ht⟩ := h
  have h1 := hL_get (L := L) hi hj
  rw [← ht, List.getElem?_take, if_pos (by omega)] at h1
  have h2 : cur[i * 7 + j]? = (hC (hAt L i))[j]? := by simpa using h1
  obtain ⟨v, hv⟩ : ∃ v, (hC (hAt L i))[j]? = some v := ⟨_, Array.getElem?_eq_getElem (by simp; omega)⟩
  rw [hv] at h2 ⊢
  exact hb.c _ h2
theorem HBlk.keep {w w' : World} {g : Nat} {L : List Hp} (h : HBlk w g L) (hk : ∀ cur, Blk w g 60 cur → Blk w' g 60 cur) : HBlk w' g L := let ⟨cur, hb, ht⟩ := h; ⟨cur, hk cur hb, ht⟩
/-- All blocks of heaps are as they were. -/
def KpH (w w' : World) : Prop := ∀ g cur, Blk w g 60 cur → Blk w' g 60 cur
theorem KpH.refl (w : World) : KpH w w := fun _ _ h => h
theorem KpH.trans {a b c : World} (h : KpH a b) (k : KpH b c) : KpH a c := fun g cur hb => k g cur (h g cur hb)
theorem KpH.putObj (W : World) (l : Nat) (o o' : Obj) (hl : W.heap[l]? = some o) (ho : o.isCells = false) : KpH W (W.putObj l o') := fun g cur hb => by
  have hne : g ≠ l := fun e => by subst e; rw [show W.heap[g]? = _ from hb] at hl; cases hl; cases ho
  exact (World.putObj_heap_other hne).trans hb
theorem KpH.of {W W' : World} (h : Below W.heap.size W W') : KpH W W' := fun _ _ hb => hb.ext h
end Go.Proofs.Ytdafpjapepfniaa
