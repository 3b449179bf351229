/- Layer 5: trees in memory; their methods. -/
import Derived.Test.YtfdaljekehkkaaaGreatDoorDd
namespace Go.Proofs.YtfdaljekehkkaaaGreatDoor
open Go Go.RowKit

/-- A beast, and a family, as values of the interface. -/
abbrev leafV (b : Nat) : Value := .iface 79 (.int .i64 (b : Int))
abbrev famV (s : Nat) (blk off n c : Nat) : Value := .iface 92 (.agg #[.int .i64 (s : Int), .slice (some ⟨blk, off, none⟩) n c])
mutual
/-- The value v is the tree; its blocks are among A. -/
def TreeV (A : Nat → Prop) (w : World) : Tr → Value → Prop
  | .leaf b, v => v = leafV b ∧ b < 9
  | .fam ks, v => ∃ blk off c, v = famV (setL ks) blk off ks.length c ∧ setL ks < 512 ∧ A blk ∧ (0 < ks.length ∧ ks.length ≤ 1000) ∧ TreesV A w blk off ks
/-- The cells from off on hold the trees. -/
def TreesV (A : Nat → Prop) (w : World) (blk : Nat) : Nat → List Tr → Prop
  | _, [] => True
  | off, t :: ts => (∃ v, w.cell? ⟨blk, off, none⟩ = some v ∧ TreeV A w t v) ∧ TreesV A w blk (off + 1) ts
end
theorem treesV_iff {A : Nat → Prop} {w : World} {blk : Nat} {ks : List Tr} : ∀ {off : Nat}, TreesV A w blk off ks ↔ ∀ i (h : i < ks.length), ∃ v, w.cell? ⟨blk, off + i, none⟩ = some v ∧ TreeV A w ks[i] v := by
  induction ks with
  | nil => intro off; simp [TreesV]
  | cons t ts ih =>
    intro off
    simp only [TreesV, ih]
    constructor
    · rintro ⟨h1, h2⟩ i hi
      cases i with
      | zero => exact h1
      | succ i =>
        have := h2 i (by simpa using hi)
        rwa [show off + 1 + i = off + (i + 1) by omega] at this
    · intro h
      refine ⟨h 0 (by simp), fun i hi => ?_⟩
      have := h (i + 1) (by simpa using hi)
      rwa [show off + (i + 1) = off + 1 + i by omega] at this
theorem cell_same {w w' : World} {b : Nat} (h : w'.heap[b]? = w.heap[b]?) (o : Nat) : w'.cell? ⟨b, o, none⟩ = w.cell? ⟨b, o, none⟩ := by simp [World.cell?, h]
/-- What keeps a tree's blocks keeps the tree. -/
theorem TreeV.frame {A A' : Nat → Prop} {w w' : World} (hA : ∀ b, A b → b < w.heap.size → A' b ∧ w'.heap[b]? = w.heap[b]?) : ∀ (t : Tr) (v : Value), TreeV A w t v → TreeV A' w' t v := by
  intro t
  induction t using Tr.ind with
  | h1 b => intro v h; exact h
  | h2 ks ih =>
    intro v h
    simp only [TreeV] at h ⊢
    obtain ⟨blk, off, c, e, hs, ha, h0, hk⟩ := h
    rw [treesV_iff] at hk
    have hlt : blk < w.heap.size := by
      obtain ⟨v0, hc, _⟩ := hk 0 h0.1
      exact block_lt_of_cell hc
    obtain ⟨ha', hsame⟩ := hA blk ha hlt
    refine ⟨blk, off, c, e, hs, ha', h0, ?_⟩
    rw [treesV_iff]
    intro i hi
    obtain ⟨v, hc, ht⟩ := hk i hi
    exact ⟨v, (cell_same hsame _).trans hc, ih _ (List.getElem_mem hi) v ht⟩
theorem TreeV.next {A : Nat → Prop} {w w' : World} {t : Tr} {v : Value} (h : TreeV A w t v) (hb : Below w.heap.size w w') : TreeV A w' t v :=
  TreeV.frame (fun b ha hlt => ⟨ha, hb.block b hlt⟩) t v h
theorem TreeV.mono {A A' : Nat → Prop} {w : World} {t : Tr} {v : Value} (h : TreeV A w t v) (hA : ∀ b, A b → b < w.heap.size → A' b) : TreeV A' w t v :=
  TreeV.frame (fun b ha hlt => ⟨hA b ha hlt, rfl⟩) t v h
theorem TreeV.set_lt {A : Nat → Prop} {w : World} {t : Tr} {v : Value} (h : TreeV A w t v) : t.set < 512 := by
  cases t with
  | leaf b => simp only [TreeV] at h; exact pw_lt (k := 9) h.2
  | fam ks => simp only [TreeV] at h; obtain ⟨_, _, _, _, hs, _⟩ := h; exact hs
theorem TreeV.shape {A : Nat → Prop} {w : World} {t : Tr} {v : Value} (h : TreeV A w t v) : ∃ ty pay, v = .iface ty pay := by
  cases t with
  | leaf b => simp only [TreeV] at h; exact ⟨_, _, h.1⟩
  | fam ks => simp only [TreeV] at h; obtain ⟨_, _, _, e, _⟩ := h; exact ⟨_, _, e⟩
theorem meth_leafB (b : Nat) (W : World) : (method 268 79 (.int .i64 (b : Int)) "droveway/breed.beasts").run Tryz.prog W = .ok (48, .int .i64 (b : Int)) W := by kernel_rfl
theorem meth_famB (s : Int) (x : Value) (W : World) : (method 268 92 (.agg #[.int .i64 s, x]) "droveway/breed.beasts").run Tryz.prog W = .ok (112, .int .i64 s) W := by kernel_rfl
theorem meth_leafT (b : Nat) (W : World) : (method 268 79 (.int .i64 (b : Int)) "droveway/breed.text").run Tryz.prog W = .ok (113, .int .i64 (b : Int)) W := by kernel_rfl
theorem meth_famT (s : Int) (x : Value) (W : World) : (method 268 92 (.agg #[.int .i64 s, x]) "droveway/breed.text").run Tryz.prog W = .ok (124, .agg #[.int .i64 s, x]) W := by kernel_rfl
theorem nil_leafB (b : Nat) (W : World) : (nilAhead 268 79 (.int .i64 (b : Int)) "droveway/breed.beasts").run Tryz.prog W = .ok (some false) W := by kernel_rfl
theorem nil_famB (s : Int) (x : Value) (W : World) : (nilAhead 268 92 (.agg #[.int .i64 s, x]) "droveway/breed.beasts").run Tryz.prog W = .ok (some false) W := by kernel_rfl
/-- The method beasts of a tree. -/
theorem TreeV.beasts {A : Nat → Prop} {w : World} {t : Tr} {v : Value} (h : TreeV A w t v) : ∃ ty pay f arg, v = .iface ty pay ∧ (∀ W, (method 268 ty pay "droveway/breed.beasts").run Tryz.prog W = .ok (f, arg) W) ∧
    (∀ args W, (callFunc f args).run Tryz.prog W = .ok (.enter f args) W) ∧ (∀ W, (nilAhead 268 ty pay "droveway/breed.beasts").run Tryz.prog W = .ok (some false) W) ∧ ∀ W, Calls Tryz.prog f #[arg] W (Only (.int .i64 ((t.set : Nat) : Int)) W) := by
  cases t with
  | leaf b =>
    simp only [TreeV] at h
    obtain ⟨rfl, hb⟩ := h
    exact ⟨_, _, _, _, rfl, meth_leafB b, fun args W => by go_simp, nil_leafB b, fun W => beastBeasts_any b (by omega) W⟩
  | fam ks =>
    simp only [TreeV] at h
    obtain ⟨blk, off, c, rfl, hs, _⟩ := h
    exact ⟨_, _, _, _, rfl, meth_famB _ _, fun args W => by go_simp, nil_famB _ _, fun W => setBeasts_any _ W⟩
set_option maxRecDepth 100000 in
theorem cmpT_any {A B : Nat → Prop} (t u : Tr) (x y : Value) (w0 w1 w : World) (hx : TreeV A w0 t x) (hy : TreeV B w1 u y) (ht : t.set ≠ 0) (hu : u.set ≠ 0) (hT : Tab w) :
    Calls Tryz.prog 57 #[x, y] w (Only (.int .i64 ((lowB t.set : Nat) - (lowB u.set : Nat) : Int)) w) := by
  have l1 := (bits_step t.set hx.set_lt (by omega)).2.1
  have l2 := (bits_step u.set hy.set_lt (by omega)).2.1
  have L1 := Lib.hid (least_any t.set hx.set_lt (by omega) w hT)
  have L2 := Lib.hid (least_any u.set hy.set_lt (by omega) w hT)
  obtain ⟨ty, pay, f, arg, rfl, hm, he, _, hc⟩ := hx.beasts
  obtain ⟨ty2, pay2, f2, arg2, rfl, hm2, he2, _, hc2⟩ := hy.beasts
  replace hc := Lib.hid hc
  replace hc2 := Lib.hid hc2
  clear hx hy ht hu hT
  generalize t.set = s at *
  generalize u.set = r at *
  generalize lowB s = a at *
  generalize lowB r = b at *
  go_enter Tryz.func57, Tryz.ntmps57
  go_wp2_with (first
    | (go_at_call 45; (with_reducible refine L1.out.mono ?_); rintro e w1 ⟨rfl, rfl⟩)
    | (go_at_call 45; (with_reducible refine L2.out.mono ?_); rintro e w1 ⟨rfl, rfl⟩)
    | ((with_reducible refine (hc.out _).mono ?_); rintro e w1 ⟨rfl, rfl⟩)
    | ((with_reducible refine (hc2.out _).mono ?_); rintro e w1 ⟨rfl, rfl⟩))
  go_ret
  exact Only.mk rfl
end Go.Proofs.YtfdaljekehkkaaaGreatDoor
