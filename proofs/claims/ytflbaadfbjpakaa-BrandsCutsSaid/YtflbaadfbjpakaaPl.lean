/- Plain words for the walks over layer 1: pairs of numbers, turns, and what a call that only makes memory of its own leaves. -/
import Derived.WalkKit
import Derived.Deep.QuietTactic
import Derived.BigQuiet
namespace Go.Proofs.Ytflbaadfbjpakaa
open Go Go.RowKit

/-- A call returned v, and below the blocks that it found nothing has turned. -/
def Ret (v : Value) (w : World) (e : Ending) (w' : World) : Prop := e = .returned v ∧ Below w.heap.size w w'
theorem Ret.mk {v v' : Value} {w w' : World} (h : v' = v) (hb : Below w.heap.size w w') : Ret v w (.returned v') w' := ⟨by rw [h], hb⟩

def crossI (a b c : Int × Int) : Int := (b.1 - a.1) * (c.2 - a.2) - (b.2 - a.2) * (c.1 - a.1)
/-- Both numbers are from -B to B. -/
def Sm (B : Int) (a : Int × Int) : Prop := -B ≤ a.1 ∧ a.1 ≤ B ∧ -B ≤ a.2 ∧ a.2 ≤ B
instance (B : Int) (a : Int × Int) : Decidable (Sm B a) := by unfold Sm; infer_instance
theorem Sm.mono {B C : Int} {a : Int × Int} (h : Sm B a) (hc : B ≤ C) : Sm C a := by unfold Sm at *; omega
theorem mul_bd {x y X Y : Int} (h1 : -X ≤ x) (h2 : x ≤ X) (h3 : -Y ≤ y) (h4 : y ≤ Y) : -(X * Y) ≤ x * y ∧ x * y ≤ X * Y := by
  have e1 : 0 ≤ (X - x) * (Y - y) := Int.mul_nonneg (by omega) (by omega)
  have e2 : 0 ≤ (X + x) * (Y + y) := Int.mul_nonneg (by omega) (by omega)
  have e3 : 0 ≤ (X - x) * (Y + y) := Int.mul_nonneg (by omega) (by omega)
  have e4 : 0 ≤ (X + x) * (Y - y) := Int.mul_nonneg (by omega) (by omega)
  simp only [Int.sub_mul, Int.mul_sub, Int.add_mul, Int.mul_add] at e1 e2 e3 e4
  omega
theorem cross_bd {a b c : Int × Int} (ha : Sm 1048576 a) (hb : Sm 1048576 b) (hc : Sm 1048576 c) : -8796093022208 ≤ crossI a b c ∧ crossI a b c ≤ 8796093022208 := by
  unfold Sm at ha hb hc
  have hp := mul_bd (x := b.1 - a.1) (y := c.2 - a.2) (X := 2097152) (Y := 2097152) (by omega) (by omega) (by omega) (by omega)
  have hq := mul_bd (x := b.2 - a.2) (y := c.1 - a.1) (X := 2097152) (Y := 2097152) (by omega) (by omega) (by omega) (by omega)
  unfold crossI
  omega
/-- p lies on the way from a to b. -/
def OnP (a b p : Int × Int) : Prop := crossI a b p = 0 ∧ (a.1 ≤ p.1 ∧ p.1 ≤ b.1 ∨ b.1 ≤ p.1 ∧ p.1 ≤ a.1) ∧ (a.2 ≤ p.2 ∧ p.2 ≤ b.2 ∨ b.2 ≤ p.2 ∧ p.2 ≤ a.2)
instance (a b p : Int × Int) : Decidable (OnP a b p) := by unfold OnP; infer_instance
/-- One is above 0 and the other one below. -/
def Opp (x y : Int) : Prop := x < 0 ∧ 0 < y ∨ y < 0 ∧ 0 < x
instance (x y : Int) : Decidable (Opp x y) := by unfold Opp; infer_instance
/-- The ways from a to b and from c to d have a point in common. -/
def MeetP (a b c d : Int × Int) : Prop := OnP a b c ∨ OnP a b d ∨ OnP c d a ∨ OnP c d b ∨ (Opp (crossI a b c) (crossI a b d) ∧ Opp (crossI c d a) (crossI c d b))
instance (a b c d : Int × Int) : Decidable (MeetP a b c d) := by unfold MeetP; infer_instance

theorem bcell {W w1 : World} (hb : Below W.heap.size W w1) : (∀ b o, b < W.heap.size → w1.cell? ⟨b, o, none⟩ = W.cell? ⟨b, o, none⟩) ∧ (∀ b o, b < W.heap.size → w1.frozen? ⟨b, o, none⟩ = W.frozen? ⟨b, o, none⟩) :=
  ⟨fun b o h => hb.cell (p := ⟨b, o, none⟩) h, fun b o h => hb.frozen (p := ⟨b, o, none⟩) h⟩
theorem b3 (w : World) (x y z : Obj) : Below w.heap.size w (((w.alloc x).alloc y).alloc z) :=
  (((Below.refl _ _).alloc (Nat.le_refl _) _).alloc (by simp) _).alloc (by simp; omega) _
theorem b3d (w : World) (x y z : Obj) : Below w.heap.size w (((w.alloc x).alloc y).alloc z).drew := (b3 w x y z).drew
theorem b1 (w : World) (x : Obj) : Below w.heap.size w (w.alloc x) := (Below.refl _ _).alloc (Nat.le_refl _) _
theorem b2 (w : World) (x y : Obj) : Below w.heap.size w ((w.alloc x).alloc y) := ((Below.refl _ _).alloc (Nat.le_refl _) _).alloc (by simp) _
theorem b4 (w : World) (x y z u : Obj) : Below w.heap.size w ((((w.alloc x).alloc y).alloc z).alloc u) :=
  ((((Below.refl _ _).alloc (Nat.le_refl _) _).alloc (by simp) _).alloc (by simp; omega) _).alloc (by simp; omega) _
/-- What a call behind b leaves, below a's blocks. -/
theorem nextB {a b c : World} (h : Below a.heap.size a b) (k : Below b.heap.size b c) : Below a.heap.size a c := h.trans (k.mono h.size)
theorem ret_dec {P : Prop} [Decidable P] {b : Bool} (h : b = true ↔ P) : Value.bool b = Value.bool (decide P) := by
  congr 1
  rw [Bool.eq_iff_iff, decide_eq_true_eq]
  exact h
/-- A cell that was there is there behind a call that only makes memory of its own. -/
theorem cellB {b c : World} (k : Below b.heap.size b c) {p : Addr} {v : Value} (h : b.cell? p = some v) : c.cell? p = some v := (k.cell (block_lt_of_cell h)).trans h
/-- Block b begins with the two numbers x and y. -/
def Box2 (w : World) (b : Nat) (x y : Int) : Prop := w.cell? ⟨b, 0, none⟩ = some (.int .i64 x) ∧ w.cell? ⟨b, 1, none⟩ = some (.int .i64 y)
theorem Box2.next {b c : World} {k : Nat} {x y : Int} (h : Box2 b k x y) (hb : Below b.heap.size b c) : Box2 c k x y := ⟨cellB hb h.1, cellB hb h.2⟩
theorem box4 (w : World) (t : TypeId) (a0 a1 b0 b1 c0 c1 d0 d1 : Int) (W : World)
    (hW : W = (((w.alloc (.cells #[.int .i64 a0, .int .i64 a1] t)).alloc (.cells #[.int .i64 b0, .int .i64 b1] t)).alloc (.cells #[.int .i64 c0, .int .i64 c1] t)).alloc (.cells #[.int .i64 d0, .int .i64 d1] t)) :
    Below w.heap.size w W ∧ Box2 W w.heap.size a0 a1 ∧ Box2 W (w.heap.size + 1) b0 b1 ∧ Box2 W (w.heap.size + 1 + 1) c0 c1 ∧ Box2 W (w.heap.size + 1 + 1 + 1) d0 d1 := by
  subst hW
  refine ⟨b4 _ _ _ _ _, ⟨?_, ?_⟩, ⟨?_, ?_⟩, ⟨?_, ?_⟩, ⟨?_, ?_⟩⟩ <;> go_simp
/-- A world behind w in which only new memory has been made. -/
structure Ext (w : World) where
  world : World
  ok : Below w.heap.size w world
instance (w : World) : Nonempty (Ext w) := ⟨⟨w, Below.refl _ w⟩⟩
/-- A region that draws its order, whose operations read what lay there, and whose calls make memory of their own alone: one walk of the text's order serves. -/
theorem wp_region_ext {P : Program} {id : Nat} {Q : Exit → Act → World → Prop} {a : Act} {w : World} {l : List Oper} (hm : P.follows .mixedOrders = true) (hB : Region.lexB .any l.toArray = true)
    (h : wpQuiet P l.toArray (fun w' => ∃ x : Ext w, w' = x.world) (fun a' => ∀ x : Ext w, Q .normal a' x.world) l a) : (Code.region id l.toArray true).wp P Q a w :=
  wp_region_quiet (C := fun w' => ∃ x : Ext w, w' = x.world) hm hB ⟨⟨_, (Below.refl _ w).drew⟩, rfl⟩ (by
    have e : (fun a' => ∀ w', (∃ x : Ext w, w' = x.world) → Q .normal a' w') = fun a' => ∀ x : Ext w, Q .normal a' x.world := by
      funext a'
      exact propext ⟨fun h x => h _ ⟨x, rfl⟩, fun h w' ⟨x, e⟩ => e ▸ h x⟩
    rw [e]
    simpa using h)
/-- A contract, met within such a region. -/
theorem callE {P : Program} {f : FuncId} {args : Array Value} {w : World} {x : Ext w} {v : Value} (h : Calls P f args x.world (Ret v x.world)) :
    Calls P f args x.world fun e w'' => e = .returned v ∧ ∃ y : Ext w, w'' = y.world :=
  h.mono fun _ w'' ⟨he, hb⟩ => ⟨he, ⟨w'', nextB x.ok hb⟩, rfl⟩
theorem cellX {w : World} {p : Addr} {v : Value} (h : w.cell? p = some v) (x : Ext w) : x.world.cell? p = some v := cellB x.ok h
/-- The sign of a number. -/
def sgn (n : Int) : Int := if 0 < n then 1 else if n < 0 then -1 else 0
theorem sgn_p {n : Int} (h : 0 < n) : sgn n = 1 := by unfold sgn; rw [if_pos h]
theorem sgn_n {n : Int} (h : n < 0) : sgn n = -1 := by unfold sgn; rw [if_neg (by omega), if_pos h]
theorem sgn_z {n : Int} (h1 : n ≤ 0) (h2 : 0 ≤ n) : sgn n = 0 := by unfold sgn; rw [if_neg (by omega), if_neg (by omega)]
theorem sgn_bd (x y : Int) : -1 ≤ sgn x * sgn y ∧ sgn x * sgn y ≤ 1 ∧ (sgn x * sgn y < 0 ↔ Opp x y) := by
  unfold sgn Opp
  by_cases h1 : 0 < x <;> by_cases h2 : x < 0 <;> by_cases h3 : 0 < y <;> by_cases h4 : y < 0 <;> first | omega | simp [h1, h2, h3, h4]
/-- Are two pairs the same? -/
def eqP (x y : Int × Int) : Bool := x.1 == y.1 && x.2 == y.2
theorem eqP_iff {x y : Int × Int} : eqP x y = true ↔ x = y := by
  obtain ⟨x1, x2⟩ := x
  obtain ⟨y1, y2⟩ := y
  simp [eqP]
theorem eqP_not {x y : Int × Int} : eqP x y = false ↔ x ≠ y := by rw [Ne, ← eqP_iff, Bool.not_eq_true]
/-- At a call the world gets a name: what is said of it stays. -/
theorem calls_at {P : Program} {f : FuncId} {args : Array Value} {w : World} {R : Ending → World → Prop} (F : World → Prop) (hF : F w) (h : ∀ W, F W → Calls P f args W R) : Calls P f args w R := h w hF
/-- The walk's spelling of an index modulo n. -/
theorem mod_at (k n : Nat) (h : 0 < n) : (0 : Int) ≤ (k : Int) % (n : Int) ∧ (k : Int) % (n : Int) < (n : Int) ∧ ((k : Int) % (n : Int)).toNat = k % n := by
  refine ⟨Int.emod_nonneg _ (by omega), Int.emod_lt_of_pos _ (by omega), ?_⟩
  rw [← Int.natCast_emod, Int.toNat_natCast]
theorem mod_at1 (k n : Nat) (h : 0 < n) : (0 : Int) ≤ ((k : Int) + 1) % (n : Int) ∧ ((k : Int) + 1) % (n : Int) < (n : Int) ∧ (((k : Int) + 1) % (n : Int)).toNat = (k + 1) % n := by
  have h := mod_at (k + 1) n h
  rwa [show ((k + 1 : Nat) : Int) = (k : Int) + 1 by omega] at h
theorem mod_at2 (k n : Nat) (h : 0 < n) : (0 : Int) ≤ ((k : Int) + 2) % (n : Int) ∧ ((k : Int) + 2) % (n : Int) < (n : Int) ∧ (((k : Int) + 2) % (n : Int)).toNat = (k + 2) % n := by
  have h := mod_at (k + 2) n h
  rwa [show ((k + 2 : Nat) : Int) = (k : Int) + 2 by omega] at h
/-- The cells of the points p 0, .., p (k - 1). -/
def cellsOf (p : Nat → Int × Int) (k : Nat) : List Value := (List.range k).flatMap fun i => [.int .i64 (p i).1, .int .i64 (p i).2]
theorem cellsOf_succ (p : Nat → Int × Int) (k : Nat) : cellsOf p (k + 1) = cellsOf p k ++ [.int .i64 (p k).1, .int .i64 (p k).2] := by simp [cellsOf, List.range_succ]
theorem cellsOf_length (p : Nat → Int × Int) (k : Nat) : (cellsOf p k).length = k * 2 := by
  induction k with
  | zero => rfl
  | succ k ih => rw [cellsOf_succ, List.length_append, ih]; simp; omega
theorem cellsOf_at (p : Nat → Int × Int) (k i : Nat) (h : i < k) : (cellsOf p k)[i * 2]? = some (.int .i64 (p i).1) ∧ (cellsOf p k)[i * 2 + 1]? = some (.int .i64 (p i).2) := by
  induction k with
  | zero => omega
  | succ k ih =>
    rw [cellsOf_succ]
    by_cases hik : i < k
    · obtain ⟨h1, h2⟩ := ih hik
      have hl := cellsOf_length p k
      exact ⟨by rw [List.getElem?_append_left (by omega)]; exact h1, by rw [List.getElem?_append_left (by omega)]; exact h2⟩
    · obtain rfl : i = k := by omega
      have hl := cellsOf_length p i
      exact ⟨by rw [List.getElem?_append_right (by omega), hl]; simp, by rw [List.getElem?_append_right (by omega), hl, show i * 2 + 1 - i * 2 = 1 by omega]; simp⟩
/-- What the call owns stays its own behind a call that only makes memory. -/
theorem owns_next {w w' : World} {base : Nat} {e : TypeId} {size : Nat} {v : Value} {n : Nat} {xs : List Value} (h : w.ownsRow base e size v n xs) (hb : Below w.heap.size w w') : w'.ownsRow base e size v n xs := by
  obtain ⟨h1, h2⟩ := h
  refine ⟨h1, ?_⟩
  rcases h2 with h2 | ⟨g, cap, cur, hv, hg, hh, r⟩
  · exact .inl h2
  · have hlt : g < w.heap.size := (Array.getElem?_eq_some_iff.1 hh).1
    exact .inr ⟨g, cap, cur, hv, hg, (hb.block g hlt).trans hh, r⟩
/-- The points in a row of the call's own, read. -/
theorem owns_pts {w : World} {base g cap n : Nat} {e : TypeId} {p : Nat → Int × Int} (h : w.ownsRow base e 2 (.slice (some ⟨g, 0, none⟩) n cap) n (cellsOf p n)) (i : Nat) (hi : i < n) :
    w.cell? ⟨g, 0 + i * 2, none⟩ = some (.int .i64 (p i).1) ∧ w.cell? ⟨g, 0 + i * 2 + 1, none⟩ = some (.int .i64 (p i).2) := by
  obtain ⟨h1, h2⟩ := cellsOf_at p n i hi
  rw [Nat.zero_add, h.cellAt _ (by omega), h.cellAt _ (by omega)]
  exact ⟨h1, h2⟩
end Go.Proofs.Ytflbaadfbjpakaa
