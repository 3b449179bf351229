/- Plain words for the walks over layer 1: pairs of numbers, turns, and what a call that only makes memory of its own leaves. A region that draws its order: first come operations that only read, and calls that only make memory of their own; behind them comes a tail in one order. It is carried out as it is written, also within a round of a loop over a function. A region that draws its order: loads come first, though an operation that makes memory does not wait for all of them; then a tail in one order. Also within a round of a loop over a function. A region that draws its order: its first operation yields one value in whatever world; then come reads and calls that only make memory; then a tail in one order. -/
import Derived.WalkKit
import Derived.Deep.QuietTactic
import Derived.BigQuiet
import Derived.StillTail
import Derived.OrdersIn
import Derived.TacticsIn
import Derived.RangeFuncCalls
import Derived.RangeFuncLeaves
import Derived.OrdersHeld
namespace Go.Proofs.Ytniknldeafmgaaa
section
open Go Go.RowKit

/-- A call returned v, and below the blocks that it found nothing has turned. -/
def Ret (v : Value) (w : World) (e : Ending) (w' : World) : Prop := e = .returned v ∧ Below w.heap.size w w'
theorem Ret.mk {v v' : Value} {w w' : World} (h : v' = v) (hb : Below w.heap.size w w') : Ret v w (.returned v') w' := ⟨by rw [h], hb⟩

def crossI (a b c : Int × Int) : Int := (b.1 - a.1) * (c.2 - a.2) - (b.2 - a.2) * (c.1 - a.1)
/-- Both numbers are from -B to B. -/
def Sm (B : Int) (a : Int × Int) : Prop := -B ≤ a.1 ∧ a.1 ≤ B ∧ -B ≤ a.2 ∧ a.2 ≤ B
instance (B : Int) (a : Int × Int) : Decidable (Sm B a) := by unfold Sm; infer_instance
theorem Sm.mono {B C : Int} {a : Int × Int} (h : Sm B a) (hc : B ≤ C) : Sm C a := by unfold Sm at *; omega
theorem mul_bd {x y X Y : Int} (h1 : -X ≤ x) (h2 : x ≤ X) (h3 : -Y ≤ y) (h4 : y ≤ Y) : -(X * Y) ≤ x * y ∧ x * y ≤ X * Y := by
  have e1 : 0 ≤ (X - x) * (Y - y) := Int.mul_nonneg (by omega) (by omega)
  have e2 : 0 ≤ (X + x) * (Y + y) := Int.mul_nonneg (by omega) (by omega)
  have e3 : 0 ≤ (X - x) * (Y + y) := Int.mul_nonneg (by omega) (by omega)
  have e4 : 0 ≤ (X + x) * (Y - y) := Int.mul_nonneg (by omega) (by omega)
  simp only [Int.sub_mul, Int.mul_sub, Int.add_mul, Int.mul_add] at e1 e2 e3 e4
  omega
theorem cross_bd {a b c : Int × Int} (ha : Sm 1048576 a) (hb : Sm 1048576 b) (hc : Sm 1048576 c) : -8796093022208 ≤ crossI a b c ∧ crossI a b c ≤ 8796093022208 := by
  unfold Sm at ha hb hc
  have hp := mul_bd (x := b.1 - a.1) (y := c.2 - a.2) (X := 2097152) (Y := 2097152) (by omega) (by omega) (by omega) (by omega)
  have hq := mul_bd (x := b.2 - a.2) (y := c.1 - a.1) (X := 2097152) (Y := 2097152) (by omega) (by omega) (by omega) (by omega)
  unfold crossI
  omega
/-- p lies on the way from a to b. -/
def OnP (a b p : Int × Int) : Prop := crossI a b p = 0 ∧ (a.1 ≤ p.1 ∧ p.1 ≤ b.1 ∨ b.1 ≤ p.1 ∧ p.1 ≤ a.1) ∧ (a.2 ≤ p.2 ∧ p.2 ≤ b.2 ∨ b.2 ≤ p.2 ∧ p.2 ≤ a.2)
instance (a b p : Int × Int) : Decidable (OnP a b p) := by unfold OnP; infer_instance
/-- One is above 0 and the other one below. -/
def Opp (x y : Int) : Prop := x < 0 ∧ 0 < y ∨ y < 0 ∧ 0 < x
instance (x y : Int) : Decidable (Opp x y) := by unfold Opp; infer_instance
/-- The ways from a to b and from c to d have a point in common. -/
def MeetP (a b c d : Int × Int) : Prop := OnP a b c ∨ OnP a b d ∨ OnP c d a ∨ OnP c d b ∨ (Opp (crossI a b c) (crossI a b d) ∧ Opp (crossI c d a) (crossI c d b))
instance (a b c d : Int × Int) : Decidable (MeetP a b c d) := by unfold MeetP; infer_instance

theorem bcell {W w1 : World} (hb : Below W.heap.size W w1) : (∀ b o, b < W.heap.size → w1.cell? ⟨b, o, none⟩ = W.cell? ⟨b, o, none⟩) ∧ (∀ b o, b < W.heap.size → w1.frozen? ⟨b, o, none⟩ = W.frozen? ⟨b, o, none⟩) :=
  ⟨fun b o h => hb.cell (p := ⟨b, o, none⟩) h, fun b o h => hb.frozen (p := ⟨b, o, none⟩) h⟩
theorem b3 (w : World) (x y z : Obj) : Below w.heap.size w (((w.alloc x).alloc y).alloc z) :=
  (((Below.refl _ _).alloc (Nat.le_refl _) _).alloc (by simp) _).alloc (by simp; omega) _
theorem b3d (w : World) (x y z : Obj) : Below w.heap.size w (((w.alloc x).alloc y).alloc z).drew := (b3 w x y z).drew
theorem b1 (w : World) (x : Obj) : Below w.heap.size w (w.alloc x) := (Below.refl _ _).alloc (Nat.le_refl _) _
theorem b2 (w : World) (x y : Obj) : Below w.heap.size w ((w.alloc x).alloc y) := ((Below.refl _ _).alloc (Nat.le_refl _) _).alloc (by simp) _
theorem b4 (w : World) (x y z u : Obj) : Below w.heap.size w ((((w.alloc x).alloc y).alloc z).alloc u) :=
  ((((Below.refl _ _).alloc (Nat.le_refl _) _).alloc (by simp) _).alloc (by simp; omega) _).alloc (by simp; omega) _
/-- What a call behind b leaves, below a's blocks. -/
theorem nextB {a b c : World} (h : Below a.heap.size a b) (k : Below b.heap.size b c) : Below a.heap.size a c := h.trans (k.mono h.size)
theorem ret_dec {P : Prop} [Decidable P] {b : Bool} (h : b = true ↔ P) : Value.bool b = Value.bool (decide P) := by
  congr 1
  rw [Bool.eq_iff_iff, decide_eq_true_eq]
  exact h
/-- A cell that was there is there behind a call that only makes memory of its own. -/
theorem cellB {b c : World} (k : Below b.heap.size b c) {p : Addr} {v : Value} (h : b.cell? p = some v) : c.cell? p = some v := (k.cell (block_lt_of_cell h)).trans h
/-- Block b begins with the two numbers x and y. -/
def Box2 (w : World) (b : Nat) (x y : Int) : Prop := w.cell? ⟨b, 0, none⟩ = some (.int .i64 x) ∧ w.cell? ⟨b, 1, none⟩ = some (.int .i64 y)
theorem Box2.next {b c : World} {k : Nat} {x y : Int} (h : Box2 b k x y) (hb : Below b.heap.size b c) : Box2 c k x y := ⟨cellB hb h.1, cellB hb h.2⟩
theorem box4 (w : World) (t : TypeId) (a0 a1 b0 b1 c0 c1 d0 d1 : Int) (W : World)
    (hW : W = (((w.alloc (.cells #[.int .i64 a0, .int .i64 a1] t)).alloc (.cells #[.int .i64 b0, .int .i64 b1] t)).alloc (.cells #[.int .i64 c0, .int .i64 c1] t)).alloc (.cells #[.int .i64 d0, .int .i64 d1] t)) :
    Below w.heap.size w W ∧ Box2 W w.heap.size a0 a1 ∧ Box2 W (w.heap.size + 1) b0 b1 ∧ Box2 W (w.heap.size + 1 + 1) c0 c1 ∧ Box2 W (w.heap.size + 1 + 1 + 1) d0 d1 := by
  subst hW
  refine ⟨b4 _ _ _ _ _, ⟨?_, ?_⟩, ⟨?_, ?_⟩, ⟨?_, ?_⟩, ⟨?_, ?_⟩⟩ <;> go_simp
/-- A world behind w in which only new memory has been made. -/
structure Ext (w : World) where
  world : World
  ok : Below w.heap.size w world
instance (w : World) : Nonempty (Ext w) := ⟨⟨w, Below.refl _ w⟩⟩
/-- A region that draws its order, whose operations read what lay there, and whose calls make memory of their own alone: one walk of the text's order serves. -/
theorem wp_region_ext {P : Program} {id : Nat} {Q : Exit → Act → World → Prop} {a : Act} {w : World} {l : List Oper} (hm : P.follows .mixedOrders = true) (hB : Region.lexB .any l.toArray = true)
    (h : wpQuiet P l.toArray (fun w' => ∃ x : Ext w, w' = x.world) (fun a' => ∀ x : Ext w, Q .normal a' x.world) l a) : (Code.region id l.toArray true).wp P Q a w :=
  wp_region_quiet (C := fun w' => ∃ x : Ext w, w' = x.world) hm hB ⟨⟨_, (Below.refl _ w).drew⟩, rfl⟩ (by
    have e : (fun a' => ∀ w', (∃ x : Ext w, w' = x.world) → Q .normal a' w') = fun a' => ∀ x : Ext w, Q .normal a' x.world := by
      funext a'
      exact propext ⟨fun h x => h _ ⟨x, rfl⟩, fun h w' ⟨x, e⟩ => e ▸ h x⟩
    rw [e]
    simpa using h)
/-- A contract, met within such a region. -/
theorem callE {P : Program} {f : FuncId} {args : Array Value} {w : World} {x : Ext w} {v : Value} (h : Calls P f args x.world (Ret v x.world)) :
    Calls P f args x.world fun e w'' => e = .returned v ∧ ∃ y : Ext w, w'' = y.world :=
  h.mono fun _ w'' ⟨he, hb⟩ => ⟨he, ⟨w'', nextB x.ok hb⟩, rfl⟩
theorem cellX {w : World} {p : Addr} {v : Value} (h : w.cell? p = some v) (x : Ext w) : x.world.cell? p = some v := cellB x.ok h
/-- The sign of a number. -/
def sgn (n : Int) : Int := if 0 < n then 1 else if n < 0 then -1 else 0
theorem sgn_p {n : Int} (h : 0 < n) : sgn n = 1 := by unfold sgn; rw [if_pos h]
theorem sgn_n {n : Int} (h : n < 0) : sgn n = -1 := by unfold sgn; rw [if_neg (by omega), if_pos h]
theorem sgn_z {n : Int} (h1 : n ≤ 0) (h2 : 0 ≤ n) : sgn n = 0 := by unfold sgn; rw [if_neg (by omega), if_neg (by omega)]
theorem sgn_bd (x y : Int) : -1 ≤ sgn x * sgn y ∧ sgn x * sgn y ≤ 1 ∧ (sgn x * sgn y < 0 ↔ Opp x y) := by
  unfold sgn Opp
  by_cases h1 : 0 < x <;> by_cases h2 : x < 0 <;> by_cases h3 : 0 < y <;> by_cases h4 : y < 0 <;> first | omega | simp [h1, h2, h3, h4]
/-- Are two pairs the same? -/
def eqP (x y : Int × Int) : Bool := x.1 == y.1 && x.2 == y.2
theorem eqP_iff {x y : Int × Int} : eqP x y = true ↔ x = y := by
  obtain ⟨x1, x2⟩ := x
  obtain ⟨y1, y2⟩ := y
  simp [eqP]
theorem eqP_not {x y : Int × Int} : eqP x y = false ↔ x ≠ y := by rw [Ne, ← eqP_iff, Bool.not_eq_true]
/-- At a call the world gets a name: what is said of it stays. -/
theorem calls_at {P : Program} {f : FuncId} {args : Array Value} {w : World} {R : Ending → World → Prop} (F : World → Prop) (hF : F w) (h : ∀ W, F W → Calls P f args W R) : Calls P f args w R := h w hF
/-- The walk's spelling of an index modulo n. -/
theorem mod_at (k n : Nat) (h : 0 < n) : (0 : Int) ≤ (k : Int) % (n : Int) ∧ (k : Int) % (n : Int) < (n : Int) ∧ ((k : Int) % (n : Int)).toNat = k % n := by
  refine ⟨Int.emod_nonneg _ (by omega), Int.emod_lt_of_pos _ (by omega), ?_⟩
  rw [← Int.natCast_emod, Int.toNat_natCast]
theorem mod_at1 (k n : Nat) (h : 0 < n) : (0 : Int) ≤ ((k : Int) + 1) % (n : Int) ∧ ((k : Int) + 1) % (n : Int) < (n : Int) ∧ (((k : Int) + 1) % (n : Int)).toNat = (k + 1) % n := by
  have h := mod_at (k + 1) n h
  rwa [show ((k + 1 : Nat) : Int) = (k : Int) + 1 by omega] at h
theorem mod_at2 (k n : Nat) (h : 0 < n) : (0 : Int) ≤ ((k : Int) + 2) % (n : Int) ∧ ((k : Int) + 2) % (n : Int) < (n : Int) ∧ (((k : Int) + 2) % (n : Int)).toNat = (k + 2) % n := by
  have h := mod_at (k + 2) n h
  rwa [show ((k + 2 : Nat) : Int) = (k : Int) + 2 by omega] at h
/-- The cells of the points p 0, .., p (k - 1). -/
def cellsOf (p : Nat → Int × Int) (k : Nat) : List Value := (List.range k).flatMap fun i => [.int .i64 (p i).1, .int .i64 (p i).2]
theorem cellsOf_succ (p : Nat → Int × Int) (k : Nat) : cellsOf p (k + 1) = cellsOf p k ++ [.int .i64 (p k).1, .int .i64 (p k).2] := by simp [cellsOf, List.range_succ]
theorem cellsOf_length (p : Nat → Int × Int) (k : Nat) : (cellsOf p k).length = k * 2 := by
  induction k with
  | zero => rfl
  | succ k ih => rw [cellsOf_succ, List.length_append, ih]; simp; omega
theorem cellsOf_at (p : Nat → Int × Int) (k i : Nat) (h : i < k) : (cellsOf p k)[i * 2]? = some (.int .i64 (p i).1) ∧ (cellsOf p k)[i * 2 + 1]? = some (.int .i64 (p i).2) := by
  induction k with
  | zero => omega
  | succ k ih =>
    rw [cellsOf_succ]
    by_cases hik : i < k
    · obtain ⟨h1, h2⟩ := ih hik
      have hl := cellsOf_length p k
      exact ⟨by rw [List.getElem?_append_left (by omega)]; exact h1, by rw [List.getElem?_append_left (by omega)]; exact h2⟩
    · obtain rfl : i = k := by omega
      have hl := cellsOf_length p i
      exact ⟨by rw [List.getElem?_append_right (by omega), hl]; simp, by rw [List.getElem?_append_right (by omega), hl, show i * 2 + 1 - i * 2 = 1 by omega]; simp⟩
/-- What the call owns stays its own behind a call that only makes memory. -/
theorem owns_next {w w' : World} {base : Nat} {e : TypeId} {size : Nat} {v : Value} {n : Nat} {xs : List Value} (h : w.ownsRow base e size v n xs) (hb : Below w.heap.size w w') : w'.ownsRow base e size v n xs := by
  obtain ⟨h1, h2⟩ := h
  refine ⟨h1, ?_⟩
  rcases h2 with h2 | ⟨g, cap, cur, hv, hg, hh, r⟩
  · exact .inl h2
  · have hlt : g < w.heap.size := (Array.getElem?_eq_some_iff.1 hh).1
    exact .inr ⟨g, cap, cur, hv, hg, (hb.block g hlt).trans hh, r⟩
/-- The points in a row of the call's own, read. -/
theorem owns_pts {w : World} {base g cap n : Nat} {e : TypeId} {p : Nat → Int × Int} (h : w.ownsRow base e 2 (.slice (some ⟨g, 0, none⟩) n cap) n (cellsOf p n)) (i : Nat) (hi : i < n) :
    w.cell? ⟨g, 0 + i * 2, none⟩ = some (.int .i64 (p i).1) ∧ w.cell? ⟨g, 0 + i * 2 + 1, none⟩ = some (.int .i64 (p i).2) := by
  obtain ⟨h1, h2⟩ := cellsOf_at p n i hi
  rw [Nat.zero_add, h.cellAt _ (by omega), h.cellAt _ (by omega)]
  exact ⟨h1, h2⟩
end
section
open Go Go.RowKit

section
variable {P : Program} {ops : Array Oper} {md : Region.Mode} {C : World → Prop}

/-- Whatever order the head's operations come in: f of them are to come; then L. -/
def headQ (P : Program) (md : Region.Mode) (ops : Array Oper) (C : World → Prop) (n : Nat) (L : Array Bool → Act → Prop) : Nat → Array Bool → Act → Prop
  | 0, listed, a => L listed a
  | f + 1, listed, a => Region.ready md ops listed ≠ [] ∧ ∀ i ∈ Region.ready md ops listed, i < n ∧ qOp P ops C i (headQ P md ops C n L f (listed.setIfInBounds i true)) a

theorem headQ_any {n g : Nat} {L : Array Bool → Act → Prop} {Q' : Exit → Act → World → Prop} (hL : ∀ listed a w, C w → L listed a → wpAny P md ops Q' g listed a w) :
    ∀ (f : Nat) (listed : Array Bool) (a : Act) (w : World), C w → headQ P md ops C n L f listed a → wpAny P md ops Q' (f + g) listed a w
  | 0, listed, a, w, hw, h => by rw [Nat.zero_add]; exact hL _ _ _ hw h
  | f + 1, listed, a, w, hw, h => by
    rw [show f + 1 + g = (f + g) + 1 by omega]
    exact ⟨fun h0 => absurd h0 h.1, fun i hi => wpOp_of_qOp hw (fun a' w' hw' h' => headQ_any hL f _ a' w' hw' h') (h.2 i hi).2⟩

theorem headQ_first {n i : Nat} {oi : Oper} {v : Value} {L : Array Bool → Act → Prop} (hi : ops[i]? = some oi) (hsel : ∀ (j : Nat) (o : Oper) cs b, ops[j]? = some o → o.op ≠ .select cs b)
    (hs : Region.sinkB md ops n = true) (hc : Region.chainB md ops n = true) (hn : n < ops.size) (hin : i < n)
    (hdone : ∀ listed a, L listed a → ∀ j ∈ Region.ready md ops listed, n ≤ j) :
    ∀ (f : Nat) (listed : Array Bool) (a : Act), HeadInv md ops n listed →
      (∀ j oj, ops[j]? = some oj → j ≠ i → listed.getD j true = false → (∀ e ∈ oj.after, Region.binds md e = true → e.on ≠ i) → oi.apart ops oj = true) →
      i ∈ Region.ready md ops listed → YieldsIn P ops C oi v a →
      headQ P md ops C n L f (listed.setIfInBounds i true) (a.put oi.dst v) → headQ P md ops C n L (f + 1) listed a := by
  intro f
  induction f with
  | zero =>
    intro listed a inv _ hr hy H
    refine ⟨fun h => (by rw [h] at hr; cases hr), fun j hj => ?_⟩
    have hjn : j < n := Nat.lt_of_not_le fun h => tail_waits hs hc hn inv _ i rfl hin (mem_ready.1 hr).1 j h hj
    refine ⟨hjn, ?_⟩
    by_cases hji : j = i
    · subst hji; exact hy.qOp hi H
    · have := hdone _ _ H j (ready_mono hj hji)
      omega
  | succ f ih =>
    intro listed a inv hfree hr hy H
    have hun := (mem_ready.1 hr).1
    refine ⟨fun h => (by rw [h] at hr; cases hr), fun j hj => ?_⟩
    have hjn : j < n := Nat.lt_of_not_le fun h => tail_waits hs hc hn inv _ i rfl hin hun j h hj
    refine ⟨hjn, ?_⟩
    by_cases hji : j = i
    · subst hji; exact hy.qOp hi H
    · obtain ⟨hjun, oj, hoj, hall⟩ := mem_ready.1 hj
      have hnot : ∀ e ∈ oj.after, Region.binds md e = true → e.on ≠ i := fun e he hb heq => by
        have h1 := hall e he hb
        rw [heq, getD_both hun] at h1
        cases h1
      have h2 := qOp_put hoj (hfree j oj hoj hji hjun hnot) (fun cs b => hsel i oi cs b hi) (fun cs b => hsel j oj cs b hoj) hy (H.2 j (ready_mono hj hji)).2
      refine qOp_mono (fun a' h3 => ih (listed.setIfInBounds j true) a' (inv.set hj hjn) (fun k ok hk hki hu hno => hfree k ok hk hki ?_ hno) (ready_mono hr (Ne.symm hji)) h3.1 ?_) h2
      · by_cases hjk : j = k
        · subst hjk; exact hjun
        · rw [getD_set_ne true hjk] at hu; exact hu
      · rw [Array.setIfInBounds_comm _ _ hji]
        exact h3.2

theorem headQ_lex {n g : Nat} {Lq : Act → Prop} (hsel : Region.noSelect ops = true) (hs : Region.sinkB md ops n = true) (hc : Region.chainB md ops n = true) (hn : n < ops.size) :
    ∀ (l : List Oper) (k : Nat) (listed : Array Bool) (a : Act), (∀ j, j < l.length → l[j]? = ops[k + j]?) → k + l.length = n → HeadInv md ops n listed →
    Region.lexHead md ops g l.length k listed = true → wpQuiet P ops C Lq l a →
    headQ P md ops C n (fun listed' a' => Region.seqB md ops g n listed' = true ∧ Lq a') l.length listed a
  | [], k, listed, a, _, hk, _, hB, h => by
    obtain rfl : k = n := by simpa using hk
    exact ⟨by simpa [Region.lexHead] using hB, h⟩
  | o :: l, k, listed, a, hl, hk, inv, hB, h => by
    have h0 : ops[k]? = some o := by simpa using (hl 0 (by simp)).symm
    simp only [List.length_cons, Region.lexHead, Bool.and_eq_true] at hB
    obtain ⟨⟨hr, hf⟩, hB'⟩ := hB
    have hkn : k < n := by simp only [List.length_cons] at hk; omega
    have hr' : k ∈ Region.ready md ops listed := by simpa using hr
    have hst : qOp P ops C k (wpQuiet P ops C Lq l) a := by unfold qOp; simp only [h0]; exact h
    obtain ⟨v, hy, hK⟩ := yieldsIn_of_qOp h0 hst
    exact headQ_first h0 (Region.noSelect_spec hsel) hs hc hn hkn (fun listed' a' hL => seqB_ready hL.1) l.length listed a inv (Region.free_spec h0 hf) hr' hy
      (headQ_lex hsel hs hc hn l (k + 1) _ _ (fun j hj => by have := hl (j + 1) (by simp; omega); simpa [Nat.add_assoc, Nat.add_comm 1 j] using this) (by simp only [List.length_cons] at hk; omega) (inv.set hr' hkn) hB' hK)

/-- The head, from the region's start on. -/
theorem headQ_start {a : Act} {l : List Oper} (n : Nat) {Lq : Act → Prop} (hB : Region.lexTailB .any l.toArray n = true) (h : wpQuiet P l.toArray C Lq (l.take n) a) :
    n < l.length ∧ headQ P .any l.toArray C n (fun listed' a' => Region.seqB .any l.toArray (l.toArray.size - n) n listed' = true ∧ Lq a') n (Array.replicate l.toArray.size false) a := by
  simp only [Region.lexTailB, Bool.and_eq_true, decide_eq_true_eq] at hB
  obtain ⟨⟨⟨⟨hsel, hn⟩, hs⟩, hc⟩, hlex⟩ := hB
  have htl : (l.take n).length = n := by simp at hn ⊢; omega
  have inv0 : HeadInv .any l.toArray n (Array.replicate l.toArray.size false) :=
    ⟨by simp, fun j oj _ hl => (by rw [getD_replicate_false] at hl; cases hl), fun t _ ht => getD_in (by simpa using ht) (getD_replicate_false _ _)⟩
  have H := headQ_lex (md := .any) (g := l.toArray.size - n) hsel hs hc hn (l.take n) 0 _ a (fun j hj => by
    have hj' : j < n := by rw [htl] at hj; exact hj
    simp [hj']) (by simpa using htl) inv0 (by rw [htl]; exact hlex) h
  rw [htl] at H
  exact ⟨by simpa using hn, H⟩

/-- A head that only reads and makes memory; then a tail, in one order. -/
theorem wp_region_ext_tail {id : Nat} {Q : Exit → Act → World → Prop} {a : Act} {w : World} {l : List Oper} (n : Nat) (hm : P.follows .mixedOrders = true) (hB : Region.lexTailB .any l.toArray n = true)
    (h : wpQuiet P l.toArray (fun w' => ∃ x : Ext w, w' = x.world) (fun a' => ∀ x : Ext w, wpList P l.toArray Q (l.drop n) a' x.world) (l.take n) a) : (Code.region id l.toArray true).wp P Q a w := by
  obtain ⟨hn, H⟩ := headQ_start n hB h
  have hdl : (l.drop n).length = l.toArray.size - n := by simp
  refine wp_region_any hm ?_
  have := headQ_any (Q' := Q) (g := l.toArray.size - n) (fun listed a' w' hw' hL => by
    obtain ⟨x, rfl⟩ := hw'
    have := wpAny_of_seq (md := .any) (Q' := Q) (l.drop n) n listed a' x.world (fun j => by simp [List.getElem?_drop]) (by rw [hdl]; exact hL.1) (hL.2 x)
    rwa [hdl] at this) _ _ _ _ ⟨⟨_, (Below.refl _ w).drew⟩, rfl⟩ H
  rwa [show n + (l.toArray.size - n) = l.toArray.size by simp; omega] at this
end

/-! Within a round of a loop over a function -/
def notDefer (l : List Oper) : Bool := l.all fun o => match o.op with | .defer _ => false | _ => true
theorem notDefer_at {l : List Oper} (h : notDefer l = true) {o : Oper} (ho : o ∈ l) : ∀ c, o.op ≠ .defer c := fun c hc => by
  have := List.all_eq_true.1 h o ho
  rw [hc] at this
  cases this

section
variable {P : Program} {ops : Array Oper} {md : Region.Mode} {C : World → Prop} {F : Fence} {m : Nat}

theorem wpOpIn_of_qOp (hF : ∀ f, F.fn f) (hd : F.depth = none) (hsem : ∀ (i : Nat) (o : Oper) ρ, ops[i]? = some o → o.semAt F.round ρ = execOp ρ o) (hcall : ∀ {f args w R}, Calls P f args w R → CallsIn F (m - 1) P f args w R)
    {i : Nat} {a : Act} {K : Act → Prop} {K' : Act → World → Prop} {Q' : Exit → Act → World → Prop} {w : World} (hC : C w) (h : ∀ a w', C w' → K a → K' a w') (hh : qOp P ops C i K a) : wpOpIn F m P ops Q' i K' a w := by
  unfold qOp at hh
  unfold wpOpIn
  split
  · rename_i ho; simp only [ho] at hh; exact h _ _ hC hh
  · rename_i o ho
    simp only [ho] at hh
    split
    · rename_i hw
      simp only [hw, if_true] at hh
      obtain ⟨v, h1, h2⟩ := hh
      have h3 := h1 w hC
      unfold Oper.quietAt at h3
      unfold Oper.wpIn
      refine ⟨fun f _ => hF f, ?_⟩
      rw [hsem i o _ ho]
      generalize (execOp a.eval o).run P w = r at *
      cases r with
      | ok x w' =>
        cases x <;> simp only [Oper.quietUpon] at h3 <;> simp only [Oper.uponIn]
        case value u => obtain ⟨e1, e2⟩ := h3; rw [e1, e2]; exact h _ _ hC h2
        case skip => obtain ⟨e1, e2⟩ := h3; rw [e1, ← e2]; exact h _ _ hC h2
        case enter f args =>
          obtain ⟨e1, hc⟩ := h3
          rw [e1]
          exact ⟨(fun h => by rw [hd] at h; cases h), (hcall hc).mono fun e w'' ⟨he, hw''⟩ => by subst he; exact h _ _ hw'' h2⟩
      | halt x w' => simp only [Oper.quietUpon] at h3
    · rename_i hw; simp only [hw] at hh; exact ⟨fun f _ => hF f, h _ _ hC hh⟩

theorem headQ_anyIn (hF : ∀ f, F.fn f) (hd : F.depth = none) (hsem : ∀ (i : Nat) (o : Oper) ρ, ops[i]? = some o → o.semAt F.round ρ = execOp ρ o) (hcall : ∀ {f args w R}, Calls P f args w R → CallsIn F (m - 1) P f args w R)
    {n g : Nat} {L : Array Bool → Act → Prop} {Q' : Exit → Act → World → Prop} (hL : ∀ listed a w, C w → L listed a → wpAnyIn F m P md ops Q' g listed a w) :
    ∀ (f : Nat) (listed : Array Bool) (a : Act) (w : World), C w → headQ P md ops C n L f listed a → wpAnyIn F m P md ops Q' (f + g) listed a w
  | 0, listed, a, w, hw, h => by rw [Nat.zero_add]; exact hL _ _ _ hw h
  | f + 1, listed, a, w, hw, h => by
    rw [show f + 1 + g = (f + g) + 1 by omega]
    exact ⟨fun h0 => absurd h0 h.1, fun i hi => wpOpIn_of_qOp hF hd hsem hcall hw (fun a' w' hw' h' => headQ_anyIn hF hd hsem hcall hL f _ a' w' hw' h') (h.2 i hi).2⟩

theorem wpAnyIn_of_seq (_hF : ∀ f, F.fn f) {Q' : Exit → Act → World → Prop} : ∀ (l : List Oper) (k : Nat) (listed : Array Bool) (a : Act) (w : World), (∀ j, l[j]? = ops[k + j]?) →
    Region.seqB md ops l.length k listed = true → wpListIn F m P ops Q' l a w → wpAnyIn F m P md ops Q' l.length listed a w
  | [], _, _, _, _, _, hB, h => ⟨by simpa [Region.seqB] using hB, h⟩
  | o :: l, k, listed, a, w, hl, hB, h => by
    have h0 : ops[k]? = some o := by simpa using (hl 0).symm
    simp only [List.length_cons, Region.seqB, Bool.and_eq_true, decide_eq_true_eq] at hB
    refine ⟨fun h1 => (by rw [hB.1] at h1; cases h1), fun i hi => ?_⟩
    rw [hB.1] at hi
    obtain rfl : i = k := by simpa using hi
    have hw : wpOpIn F m P ops Q' i (wpListIn F m P ops Q' l) a w := by
      unfold wpOpIn
      simp only [h0]
      unfold wpListIn at h
      exact h
    exact wpOpIn_mono (fun a' w' h' => wpAnyIn_of_seq _hF l (i + 1) _ a' w' (fun j => by have := hl (j + 1); simpa [Nat.add_assoc, Nat.add_comm 1 j] using this) hB.2 h') hw

/-- A head that only reads and makes memory; then a tail, in one order: in a fence that lets everything by. -/
theorem wpIn_tail_gen (hF : ∀ f, F.fn f) (hd : F.depth = none) (hcall : ∀ {f args w R}, Calls P f args w R → CallsIn F (m - 1) P f args w R)
    {id : Nat} {Q : Exit → Act → World → Prop} {a : Act} {w : World} {l : List Oper} (n : Nat) (hm : P.follows .mixedOrders = true) (hB : Region.lexTailB .any l.toArray n = true) (hnd : notDefer l = true)
    (h : wpQuiet P l.toArray (fun w' => ∃ x : Ext w, w' = x.world) (fun a' => ∀ x : Ext w, wpListIn F m P l.toArray Q (l.drop n) a' x.world) (l.take n) a) : (Code.region id l.toArray true).wpIn F m P Q a w := by
  obtain ⟨hn, H⟩ := headQ_start n hB h
  have hdl : (l.drop n).length = l.toArray.size - n := by simp
  have hsem : ∀ (i : Nat) (o : Oper) ρ, l.toArray[i]? = some o → o.semAt F.round ρ = execOp ρ o := fun i o ρ ho => Oper.semAt_eq _ _ _ (notDefer_at hnd (List.mem_of_getElem? (by simpa using ho)))
  refine wpIn_region_any hm ?_
  have := headQ_anyIn (Q' := Q) (F := F) (m := m) (g := l.toArray.size - n) hF hd hsem hcall (fun listed a' w' hw' hL => by
    obtain ⟨x, rfl⟩ := hw'
    have := wpAnyIn_of_seq (F := F) (m := m) (P := P) (md := .any) (Q' := Q) hF (l.drop n) n listed a' x.world (fun j => by simp [List.getElem?_drop]) (by rw [hdl]; exact hL.1) (hL.2 x)
    rwa [hdl] at this) _ _ _ _ ⟨⟨_, (Below.refl _ w).drew⟩, rfl⟩ H
  rwa [show n + (l.toArray.size - n) = l.toArray.size by simp; omega] at this
theorem wpIn_wide_tail {id : Nat} {Q : Exit → Act → World → Prop} {a : Act} {w : World} {l : List Oper} (n : Nat) (hm : P.follows .mixedOrders = true) (hB : Region.lexTailB .any l.toArray n = true) (hnd : notDefer l = true)
    (h : wpQuiet P l.toArray (fun w' => ∃ x : Ext w, w' = x.world) (fun a' => ∀ x : Ext w, wpListIn Fence.wide m P l.toArray Q (l.drop n) a' x.world) (l.take n) a) : (Code.region id l.toArray true).wpIn Fence.wide m P Q a w :=
  wpIn_tail_gen (fun _ => trivial) rfl (fun h => callsIn_wide.2 h) n hm hB hnd h
theorem wpIn_round_tail (l0 : Nat) {id : Nat} {Q : Exit → Act → World → Prop} {a : Act} {w : World} {l : List Oper} (n : Nat) (hm : P.follows .mixedOrders = true) (hB : Region.lexTailB .any l.toArray n = true) (hnd : notDefer l = true)
    (h : wpQuiet P l.toArray (fun w' => ∃ x : Ext w, w' = x.world) (fun a' => ∀ x : Ext w, wpListIn (Fence.wide.inRound l0) m P l.toArray Q (l.drop n) a' x.world) (l.take n) a) : (Code.region id l.toArray true).wpIn (Fence.wide.inRound l0) m P Q a w :=
  wpIn_tail_gen (fun _ => trivial) rfl (fun h => CallsIn.inRound l0 (callsIn_wide.2 h)) n hm hB hnd h

theorem anyQ_anyIn (hF : ∀ f, F.fn f) (hd : F.depth = none) (hsem : ∀ (i : Nat) (o : Oper) ρ, ops[i]? = some o → o.semAt F.round ρ = execOp ρ o) (hcall : ∀ {f args w R}, Calls P f args w R → CallsIn F (m - 1) P f args w R)
    {Qq : Act → Prop} {Q' : Exit → Act → World → Prop} (hQ : ∀ a w, C w → Qq a → Q' .normal a w) : ∀ (fuel : Nat) (listed : Array Bool) (a : Act) (w : World), C w → wpAnyQ P md ops C Qq fuel listed a → wpAnyIn F m P md ops Q' fuel listed a w
  | 0, _, _, _, hw, h => ⟨h.1, hQ _ _ hw h.2⟩
  | fuel + 1, _, _, _, hw, h => ⟨fun h0 => hQ _ _ hw (h.1 h0), fun i hi => wpOpIn_of_qOp hF hd hsem hcall hw (fun a' w' hw' h' => anyQ_anyIn hF hd hsem hcall hQ fuel _ a' w' hw' h') (h.2 i hi)⟩
/-- All operations only read or make memory. -/
theorem wpIn_ext_gen (hF : ∀ f, F.fn f) (hd : F.depth = none) (hcall : ∀ {f args w R}, Calls P f args w R → CallsIn F (m - 1) P f args w R)
    {id : Nat} {Q : Exit → Act → World → Prop} {a : Act} {w : World} {l : List Oper} (hm : P.follows .mixedOrders = true) (hB : Region.lexB .any l.toArray = true) (hnd : notDefer l = true)
    (h : wpQuiet P l.toArray (fun w' => ∃ x : Ext w, w' = x.world) (fun a' => ∀ x : Ext w, Q .normal a' x.world) l a) : (Code.region id l.toArray true).wpIn F m P Q a w := by
  have hsem : ∀ (i : Nat) (o : Oper) ρ, l.toArray[i]? = some o → o.semAt F.round ρ = execOp ρ o := fun i o ρ ho => Oper.semAt_eq _ _ _ (notDefer_at hnd (List.mem_of_getElem? (by simpa using ho)))
  simp only [Region.lexB, Bool.and_eq_true] at hB
  refine wpIn_region_any hm (anyQ_anyIn (C := fun w' => ∃ x : Ext w, w' = x.world) (Qq := fun a' => ∀ x : Ext w, Q .normal a' x.world) hF hd hsem hcall (fun a w' ⟨x, e⟩ h => e ▸ h x) _ _ _ _ ⟨⟨_, (Below.refl _ w).drew⟩, rfl⟩ ?_)
  have := wpAnyQ_lex (C := fun w' => ∃ x : Ext w, w' = x.world) (md := .any) hB.1 l.toArray.toList 0 (Array.replicate l.toArray.size false) a (by simp) (by simpa using hB.2) (by simpa using h)
  simpa using this
theorem wpIn_round_ext (l0 : Nat) {id : Nat} {Q : Exit → Act → World → Prop} {a : Act} {w : World} {l : List Oper} (hm : P.follows .mixedOrders = true) (hB : Region.lexB .any l.toArray = true) (hnd : notDefer l = true)
    (h : wpQuiet P l.toArray (fun w' => ∃ x : Ext w, w' = x.world) (fun a' => ∀ x : Ext w, Q .normal a' x.world) l a) : (Code.region id l.toArray true).wpIn (Fence.wide.inRound l0) m P Q a w :=
  wpIn_ext_gen (fun _ => trivial) rfl (fun h => CallsIn.inRound l0 (callsIn_wide.2 h)) hm hB hnd h
theorem wpIn_wide_ext {id : Nat} {Q : Exit → Act → World → Prop} {a : Act} {w : World} {l : List Oper} (hm : P.follows .mixedOrders = true) (hB : Region.lexB .any l.toArray = true) (hnd : notDefer l = true)
    (h : wpQuiet P l.toArray (fun w' => ∃ x : Ext w, w' = x.world) (fun a' => ∀ x : Ext w, Q .normal a' x.world) l a) : (Code.region id l.toArray true).wpIn Fence.wide m P Q a w :=
  wpIn_ext_gen (fun _ => trivial) rfl (fun h => callsIn_wide.2 h) hm hB hnd h
end
end
section
open Go Go.RowKit

section
variable {P : Program} {ops : Array Oper} {md : Region.Mode} {S : World → Prop} {Q : Exit → Act → World → Prop}

/-- Whatever order is picked from here on; S holds behind each of the first n operations. -/
def wpAnyC (P : Program) (md : Region.Mode) (ops : Array Oper) (Q : Exit → Act → World → Prop) (S : World → Prop) (n : Nat) : Nat → Array Bool → Act → World → Prop
  | 0, listed, a, w => Region.ready md ops listed = [] ∧ Q .normal a w
  | fuel + 1, listed, a, w =>
    (Region.ready md ops listed = [] → Q .normal a w) ∧
    ∀ i ∈ Region.ready md ops listed, wpOp P ops Q i (fun a' w' => (i < n → S w') ∧ wpAnyC P md ops Q S n fuel (listed.setIfInBounds i true) a' w') a w

theorem wpAny_of_C {n : Nat} : ∀ (fuel : Nat) (listed : Array Bool) (a : Act) (w : World), wpAnyC P md ops Q S n fuel listed a w → wpAny P md ops Q fuel listed a w
  | 0, _, _, _, h => h
  | fuel + 1, _, _, _, h => ⟨h.1, fun i hi => wpOp_mono (fun a' w' h' => wpAny_of_C fuel _ a' w' h'.2) (h.2 i hi)⟩

theorem wpAnyC_first {n i : Nat} {oi : Oper} {v : Value} (hi : ops[i]? = some oi) (hsel : ∀ (j : Nat) (o : Oper) cs b, ops[j]? = some o → o.op ≠ .select cs b)
    (hs : Region.sinkB md ops n = true) (hc : Region.chainB md ops n = true) (hn : n < ops.size) (hin : i < n)
    (hQ : ∀ c a w, Q (.panic c) (a.put oi.dst v) w → Q (.panic c) a w) :
    ∀ (fuel : Nat) (listed : Array Bool) (a : Act) (w : World), HeadInv md ops n listed →
      (∀ j oj, ops[j]? = some oj → j ≠ i → listed.getD j true = false → (∀ e ∈ oj.after, Region.binds md e = true → e.on ≠ i) → oi.apart ops oj = true) →
      i ∈ Region.ready md ops listed → YieldsIf P ops S oi v a → S w →
      wpAnyC P md ops Q S n fuel (listed.setIfInBounds i true) (a.put oi.dst v) w → wpAnyC P md ops Q S n (fuel + 1) listed a w := by
  intro fuel
  induction fuel with
  | zero =>
    intro listed a w inv _ hr hy hS H
    refine ⟨fun h => (by rw [h] at hr; cases hr), fun j hj => ?_⟩
    by_cases hji : j = i
    · subst hji; exact hy.wpOp hi hS ⟨fun _ => hS, H⟩
    · have := ready_mono hj hji
      rw [H.1] at this
      cases this
  | succ fuel ih =>
    intro listed a w inv hfree hr hy hS H
    have hun := (mem_ready.1 hr).1
    refine ⟨fun h => (by rw [h] at hr; cases hr), fun j hj => ?_⟩
    have hjn : j < n := Nat.lt_of_not_le fun h => tail_waits hs hc hn inv _ i rfl hin hun j h hj
    by_cases hji : j = i
    · subst hji; exact hy.wpOp hi hS ⟨fun _ => hS, H⟩
    · have h1 := H.2 j (ready_mono hj hji)
      obtain ⟨hjun, oj, hoj, hall⟩ := mem_ready.1 hj
      have hnot : ∀ e ∈ oj.after, Region.binds md e = true → e.on ≠ i := fun e he hb heq => by
        have h1 := hall e he hb
        rw [heq, getD_both hun] at h1
        cases h1
      have h2 := wpOp_putIf hoj (hfree j oj hoj hji hjun hnot) (fun cs b => hsel i oi cs b hi) (fun cs b => hsel j oj cs b hoj) hQ hy h1
      have hfree' : ∀ k ok, ops[k]? = some ok → k ≠ i → (listed.setIfInBounds j true).getD k true = false →
          (∀ e ∈ ok.after, Region.binds md e = true → e.on ≠ i) → oi.apart ops ok = true := fun k ok hk hki hun hno => by
        refine hfree k ok hk hki ?_ hno
        by_cases hjk : j = k
        · subst hjk; exact hjun
        · rw [getD_set_ne true hjk] at hun; exact hun
      refine wpOp_mono (fun a' w' h3 => ⟨fun _ => h3.2.1 hjn, ih (listed.setIfInBounds j true) a' w' (inv.set hj hjn) hfree' (ready_mono hr (Ne.symm hji)) h3.1 (h3.2.1 hjn) ?_⟩) h2
      rw [Array.setIfInBounds_comm _ _ hji]
      exact h3.2.2

/-- The head's operations, one at a time, as they are written: each leaves its value in every world of S, and nothing else. -/
def takes (P : Program) (ops : Array Oper) (S : World → Prop) (L : Act → Prop) : List Oper → Act → Prop
  | [], a => L a
  | o :: l, a => ∃ v, YieldsIf P ops S o v a ∧ takes P ops S L l (a.put o.dst v)

theorem wpAnyC_seq {n : Nat} : ∀ (l : List Oper) (k : Nat) (listed : Array Bool) (a : Act) (w : World), n ≤ k → (∀ j, l[j]? = ops[k + j]?) →
    Region.seqB md ops l.length k listed = true → wpList P ops Q l a w → wpAnyC P md ops Q S n l.length listed a w
  | [], _, _, _, _, _, _, hB, h => ⟨by simpa [Region.seqB] using hB, h⟩
  | o :: l, k, listed, a, w, hk, hl, hB, h => by
    have h0 : ops[k]? = some o := by simpa using (hl 0).symm
    simp only [List.length_cons, Region.seqB, Bool.and_eq_true, decide_eq_true_eq] at hB
    refine ⟨fun h1 => (by rw [hB.1] at h1; cases h1), fun i hi => ?_⟩
    rw [hB.1] at hi
    obtain rfl : i = k := by simpa using hi
    have hw : wpOp P ops Q i (wpList P ops Q l) a w := by unfold wpOp; simp only [h0]; exact h
    exact wpOp_mono (fun a' w' h' => ⟨fun h => absurd h (by omega), wpAnyC_seq l (i + 1) _ a' w' (by omega) (fun j => by have := hl (j + 1); simpa [Nat.add_assoc, Nat.add_comm 1 j] using this) hB.2 h'⟩) hw

/-- The head up to operation m, then operation m, which makes memory, then the tail. -/
theorem wpAnyC_lex {m : Nat} {om : Oper} {tail : List Oper} {w : World} (hsel : Region.noSelect ops = true) (hs : Region.sinkB md ops (m + 1) = true) (hc : Region.chainB md ops (m + 1) = true) (hn : m + 1 < ops.size)
    (hQ : ∀ c a w, ¬ Q (.panic c) a w) (hS : S w) (hm : ops[m]? = some om) (ht : ∀ j, tail[j]? = ops[m + 1 + j]?) :
    ∀ (l : List Oper) (k : Nat) (listed : Array Bool) (a : Act), (∀ j, j < l.length → l[j]? = ops[k + j]?) → k + l.length = m → HeadInv md ops (m + 1) listed →
    Region.lexHead md ops (tail.length + 1) l.length k listed = true →
    takes P ops S (fun a' => wpOp P ops Q m (fun a'' w'' => S w'' ∧ wpList P ops Q tail a'' w'') a' w) l a →
    wpAnyC P md ops Q S (m + 1) (l.length + (tail.length + 1)) listed a w
  | [], k, listed, a, _, hk, _, hB, h => by
    obtain rfl : k = m := by simpa using hk
    simp only [List.length_nil, Region.lexHead, Region.seqB, Bool.and_eq_true, decide_eq_true_eq] at hB
    rw [List.length_nil, Nat.zero_add]
    refine ⟨fun h1 => (by rw [hB.1] at h1; cases h1), fun i hi => ?_⟩
    rw [hB.1] at hi
    obtain rfl : i = k := by simpa using hi
    replace h : wpOp P ops Q i (fun a'' w'' => S w'' ∧ wpList P ops Q tail a'' w'') a w := h
    exact wpOp_mono (fun a' w' h' => ⟨fun _ => h'.1, wpAnyC_seq tail (i + 1) _ a' w' (Nat.le_refl _) ht hB.2 h'.2⟩) h
  | o :: l, k, listed, a, hl, hk, inv, hB, h => by
    have h0 : ops[k]? = some o := by simpa using (hl 0 (by simp)).symm
    simp only [List.length_cons, Region.lexHead, Bool.and_eq_true] at hB
    obtain ⟨⟨hr, hf⟩, hB'⟩ := hB
    have hkn : k < m + 1 := by simp only [List.length_cons] at hk; omega
    have hr' : k ∈ Region.ready md ops listed := by simpa using hr
    obtain ⟨v, hy, hK⟩ := h
    rw [List.length_cons, show l.length + 1 + (tail.length + 1) = l.length + (tail.length + 1) + 1 by omega]
    exact wpAnyC_first h0 (Region.noSelect_spec hsel) hs hc hn hkn (fun c a w h => absurd h (hQ _ _ _)) _ listed a w inv (Region.free_spec h0 hf) hr' hy hS
      (wpAnyC_lex hsel hs hc hn hQ hS hm ht l (k + 1) _ _ (fun j hj => by have := hl (j + 1) (by simp; omega); simpa [Nat.add_assoc, Nat.add_comm 1 j] using this) (by simp only [List.length_cons] at hk; omega) (inv.set hr' hkn) hB' hK)

end

section
variable {P : Program} {ops : Array Oper} {md : Region.Mode} {F : Fence} {m : Nat}
/-- Outside of the fence nothing ends but normally: then it is carried out so within it. -/
theorem wpAnyIn_of_wpAny (hF : ∀ f, F.fn f) (hd : F.depth = none) (hsem : ∀ (i : Nat) (o : Oper) ρ, ops[i]? = some o → o.semAt F.round ρ = execOp ρ o)
    (hcall : ∀ {f args w R}, Calls P f args w R → CallsIn F (m - 1) P f args w R) (hrow : ∀ {r args w R}, Rows P r args w R → RowsIn F (m - 1) P r args w R)
    {Post : Act → World → Prop} {Q : Exit → Act → World → Prop} (hQ : ∀ a w, Post a w → Q .normal a w) :
    ∀ (fuel : Nat) (listed : Array Bool) (a : Act) (w : World), wpAny P md ops (fun e a w => e = .normal ∧ Post a w) fuel listed a w → wpAnyIn F m P md ops Q fuel listed a w
  | 0, _, _, _, h => ⟨h.1, hQ _ _ h.2.2⟩
  | fuel + 1, listed, a, w, h => by
    refine ⟨fun h0 => hQ _ _ (h.1 h0).2, fun i hi => ?_⟩
    have h1 := wpOp_mono (fun a' w' h' => wpAnyIn_of_wpAny hF hd hsem hcall hrow hQ fuel _ a' w' h') (h.2 i hi)
    generalize wpAnyIn F m P md ops Q fuel (listed.setIfInBounds i true) = K at h1 ⊢
    unfold wpOp at h1
    unfold wpOpIn
    split
    · rename_i ho; simp only [ho] at h1; exact h1
    · rename_i o ho
      simp only [ho] at h1
      split
      · rename_i hw
        simp only [hw, if_true] at h1
        rcases h1 with h1 | ⟨_, ⟨_, _, h2, _⟩⟩
        · unfold Oper.wp at h1
          unfold Oper.wpIn
          refine ⟨fun f _ => hF f, ?_⟩
          rw [hsem i o _ ho]
          generalize (execOp a.eval o).run P w = r at *
          cases r with
          | ok x w' =>
            cases x <;> simp only [Oper.upon] at h1 <;> simp only [Oper.uponIn]
            case value u => exact h1
            case skip => exact h1
            case defer d => exact h1
            case enter f args =>
              refine ⟨(fun h => by rw [hd] at h; cases h), (hcall h1).mono fun e w'' he => ?_⟩
              cases e with
              | returned u => exact he
              | panicked c => exact absurd he.1 (by simp)
              | outgrown => obtain ⟨_, _, h2, _⟩ := he; cases h2
            case row r args => exact ⟨(fun h => by rw [hd] at h; cases h), hrow h1⟩
          | halt x w' =>
            cases x <;> simp only [Oper.upon] at h1 <;> simp only [Oper.uponIn]
            case panic u => exact absurd h1.1 (by simp)
        · cases h2
      · rename_i hw; simp only [hw] at h1; exact ⟨fun f _ => hF f, h1⟩
theorem rowsIn_wide {n : Nat} {r : String} {args : Array Value} {w : World} {R : Value → World → Prop} (h : Rows P r args w R) : RowsIn Fence.wide n P r args w R :=
  fun c cs _ => let ⟨v, w', k, s⟩ := h c cs; ⟨v, w', k, stepsIn_wide.2 s⟩

/-- Loads, then one operation that makes memory, then a tail: within a round. -/
theorem wpIn_round_takes (l0 : Nat) {id : Nat} {Q : Exit → Act → World → Prop} {a : Act} {w : World} {l : List Oper} {om : Oper} (k : Nat) (S : World → Prop) (Post : Act → World → Prop) (hm : P.follows .mixedOrders = true)
    (hom : l[k]? = some om) (hB : Region.lexTailB .any l.toArray (k + 1) = true) (hH : Region.lexHead .any l.toArray ((l.drop (k + 1)).length + 1) k 0 (Array.replicate l.toArray.size false) = true) (hnd : notDefer l = true)
    (hS : S w.drew) (hQ : ∀ a w, Post a w → Q .normal a w)
    (h : takes P l.toArray S (fun a' => wpOp P l.toArray (fun e a w => e = .normal ∧ Post a w) k (fun a'' w'' => S w'' ∧ wpList P l.toArray (fun e a w => e = .normal ∧ Post a w) (l.drop (k + 1)) a'' w'') a' w.drew) (l.take k) a) :
    (Code.region id l.toArray true).wpIn (Fence.wide.inRound l0) m P Q a w := by
  refine wpIn_region_any hm ?_
  have hsem : ∀ (i : Nat) (o : Oper) ρ, l.toArray[i]? = some o → o.semAt (Fence.wide.inRound l0).round ρ = execOp ρ o := fun i o ρ ho => Oper.semAt_eq _ _ _ (notDefer_at hnd (List.mem_of_getElem? (by simpa using ho)))
  refine wpAnyIn_of_wpAny (F := Fence.wide.inRound l0) (m := m) (fun _ => trivial) rfl hsem (fun h => CallsIn.inRound l0 (callsIn_wide.2 h)) (fun h => rowsIn_wide h) hQ _ _ _ _ (wpAny_of_C (S := S) (n := k + 1) _ _ _ _ ?_)
  simp only [Region.lexTailB, Bool.and_eq_true, decide_eq_true_eq] at hB
  obtain ⟨⟨⟨⟨hsel, hn⟩, hs⟩, hc⟩, _⟩ := hB
  have hlen : k < l.length := by simp at hn; omega
  have htl : (l.take k).length = k := by simp; omega
  have inv0 : HeadInv .any l.toArray (k + 1) (Array.replicate l.toArray.size false) :=
    ⟨by simp, fun j oj _ hl => (by rw [getD_replicate_false] at hl; cases hl), fun t _ ht => getD_in (by simpa using ht) (getD_replicate_false _ _)⟩
  have := wpAnyC_lex (P := P) (md := .any) (S := S) (Q := fun e a w => e = .normal ∧ Post a w) (m := k) (om := om) (tail := l.drop (k + 1)) (w := w.drew) hsel hs hc hn (fun c a w h => by cases h.1) hS (by simpa using hom) (fun j => by simp [List.getElem?_drop])
    (l.take k) 0 _ a (fun j hj => by
      have hj' : j < k := by rw [htl] at hj; exact hj
      simp [hj']) (by simpa using htl) inv0 (by rw [htl]; exact hH) h
  rw [htl] at this
  have e : k + ((l.drop (k + 1)).length + 1) = l.toArray.size := by simp; omega
  rwa [e] at this
end
end
section
open Go Go.RowKit

section
variable {P : Program} {ops : Array Oper} {md : Region.Mode} {C : World → Prop}

/-- From operation k0 on, each of the head's operations is waited for. -/
def sinkFrom (md : Region.Mode) (ops : Array Oper) (n k0 : Nat) : Bool :=
  (List.range n).all fun i => decide (i < k0) || (List.range (n + 1)).any fun j => decide (i < j) && Region.waitsFor md ops j i

theorem waits_from {n k0 : Nat} {listed : Array Bool} (hs : sinkFrom md ops n k0 = true) (hc : Region.chainB md ops n = true) (hn : n < ops.size) (inv : HeadInv md ops n listed) :
    ∀ (d i : Nat), n - i = d → k0 ≤ i → i < n → listed.getD i true = false → ∀ t, n ≤ t → t ∉ Region.ready md ops listed := by
  intro d
  induction d using Nat.strongRecOn with
  | _ d ih =>
    intro i hd hk hi hun t ht hr
    obtain ⟨_, ot, hot, hall⟩ := mem_ready.1 hr
    have hts : t < ops.size := (Array.getElem?_eq_some_iff.1 hot).1
    rcases Nat.eq_or_lt_of_le ht with rfl | hlt
    · have h1 := List.all_eq_true.1 hs i (List.mem_range.2 hi)
      rw [Bool.or_eq_true] at h1
      rcases h1 with h1 | h1
      · have := of_decide_eq_true h1; omega
      · obtain ⟨j, hj, hj2⟩ := List.any_eq_true.1 h1
        simp only [Bool.and_eq_true, decide_eq_true_eq] at hj2
        obtain ⟨oj, hoj, e, he, hb, hon⟩ := Region.waitsFor_spec hj2.2
        have hjn := List.mem_range.1 hj
        by_cases hjt : j = n
        · subst hjt
          obtain rfl : oj = ot := Option.some.inj (hoj.symm.trans hot)
          have h2 := hall e he hb
          rw [hon, getD_both hun] at h2
          cases h2
        · cases hl : listed.getD j false with
          | true =>
            have h2 := inv.closed j oj hoj hl e he hb
            rw [hon, getD_both hun] at h2
            cases h2
          | false => exact ih (n - j) (by omega) j rfl (by omega) (by omega) (getD_in (by rw [inv.size]; omega) hl) n (Nat.le_refl _) hr
    · have h1 := List.all_eq_true.1 hc t (List.mem_range.2 hts)
      simp only [Bool.or_eq_true, decide_eq_true_eq] at h1
      rcases h1 with h1 | h1
      · omega
      · obtain ⟨o', ho', e, he, hb, hon⟩ := Region.waitsFor_spec h1
        obtain rfl : o' = ot := Option.some.inj (ho'.symm.trans hot)
        have h2 := hall e he hb
        rw [hon, getD_both (inv.tail (t - 1) (by omega) (by omega))] at h2
        cases h2

theorem headQ_first2 {n k0 i : Nat} {oi : Oper} {v : Value} {L : Array Bool → Act → Prop} (hi : ops[i]? = some oi) (hsel : ∀ (j : Nat) (o : Oper) cs b, ops[j]? = some o → o.op ≠ .select cs b)
    (hs : sinkFrom md ops n k0 = true) (hc : Region.chainB md ops n = true) (hn : n < ops.size) (hk : k0 ≤ i) (hin : i < n)
    (hdone : ∀ listed a, L listed a → ∀ j ∈ Region.ready md ops listed, n ≤ j) :
    ∀ (f : Nat) (listed : Array Bool) (a : Act), HeadInv md ops n listed →
      (∀ j oj, ops[j]? = some oj → j ≠ i → listed.getD j true = false → (∀ e ∈ oj.after, Region.binds md e = true → e.on ≠ i) → oi.apart ops oj = true) →
      i ∈ Region.ready md ops listed → YieldsIn P ops C oi v a →
      headQ P md ops C n L f (listed.setIfInBounds i true) (a.put oi.dst v) → headQ P md ops C n L (f + 1) listed a := by
  intro f
  induction f with
  | zero =>
    intro listed a inv _ hr hy H
    refine ⟨fun h => (by rw [h] at hr; cases hr), fun j hj => ?_⟩
    have hjn : j < n := Nat.lt_of_not_le fun h => waits_from hs hc hn inv _ i rfl hk hin (mem_ready.1 hr).1 j h hj
    refine ⟨hjn, ?_⟩
    by_cases hji : j = i
    · subst hji; exact hy.qOp hi H
    · have := hdone _ _ H j (ready_mono hj hji)
      omega
  | succ f ih =>
    intro listed a inv hfree hr hy H
    have hun := (mem_ready.1 hr).1
    refine ⟨fun h => (by rw [h] at hr; cases hr), fun j hj => ?_⟩
    have hjn : j < n := Nat.lt_of_not_le fun h => waits_from hs hc hn inv _ i rfl hk hin hun j h hj
    refine ⟨hjn, ?_⟩
    by_cases hji : j = i
    · subst hji; exact hy.qOp hi H
    · obtain ⟨hjun, oj, hoj, hall⟩ := mem_ready.1 hj
      have hnot : ∀ e ∈ oj.after, Region.binds md e = true → e.on ≠ i := fun e he hb heq => by
        have h1 := hall e he hb
        rw [heq, getD_both hun] at h1
        cases h1
      have h2 := qOp_put hoj (hfree j oj hoj hji hjun hnot) (fun cs b => hsel i oi cs b hi) (fun cs b => hsel j oj cs b hoj) hy (H.2 j (ready_mono hj hji)).2
      refine qOp_mono (fun a' h3 => ih (listed.setIfInBounds j true) a' (inv.set hj hjn) (fun k ok hk hki hu hno => hfree k ok hk hki ?_ hno) (ready_mono hr (Ne.symm hji)) h3.1 ?_) h2
      · by_cases hjk : j = k
        · subst hjk; exact hjun
        · rw [getD_set_ne true hjk] at hu; exact hu
      · rw [Array.setIfInBounds_comm _ _ hji]
        exact h3.2

theorem headQ_lex2 {n k0 g : Nat} {Lq : Act → Prop} (hsel : Region.noSelect ops = true) (hs : sinkFrom md ops n k0 = true) (hc : Region.chainB md ops n = true) (hn : n < ops.size) :
    ∀ (l : List Oper) (k : Nat) (listed : Array Bool) (a : Act), k0 ≤ k → (∀ j, j < l.length → l[j]? = ops[k + j]?) → k + l.length = n → HeadInv md ops n listed →
    Region.lexHead md ops g l.length k listed = true → wpQuiet P ops C Lq l a →
    headQ P md ops C n (fun listed' a' => Region.seqB md ops g n listed' = true ∧ Lq a') l.length listed a
  | [], k, listed, a, _, _, hk, _, hB, h => by
    obtain rfl : k = n := by simpa using hk
    exact ⟨by simpa [Region.lexHead] using hB, h⟩
  | o :: l, k, listed, a, hk0, hl, hk, inv, hB, h => by
    have h0 : ops[k]? = some o := by simpa using (hl 0 (by simp)).symm
    simp only [List.length_cons, Region.lexHead, Bool.and_eq_true] at hB
    obtain ⟨⟨hr, hf⟩, hB'⟩ := hB
    have hkn : k < n := by simp only [List.length_cons] at hk; omega
    have hr' : k ∈ Region.ready md ops listed := by simpa using hr
    have hst : qOp P ops C k (wpQuiet P ops C Lq l) a := by unfold qOp; simp only [h0]; exact h
    obtain ⟨v, hy, hK⟩ := yieldsIn_of_qOp h0 hst
    exact headQ_first2 h0 (Region.noSelect_spec hsel) hs hc hn hk0 hkn (fun listed' a' hL => seqB_ready hL.1) l.length listed a inv (Region.free_spec h0 hf) hr' hy
      (headQ_lex2 hsel hs hc hn l (k + 1) _ _ (by omega) (fun j hj => by have := hl (j + 1) (by simp; omega); simpa [Nat.add_assoc, Nat.add_comm 1 j] using this) (by simp only [List.length_cons] at hk; omega) (inv.set hr' hkn) hB' hK)

/-- The region's own conditions, for a first operation, a head up to n, and a tail. -/
def takeTailB (md : Region.Mode) (ops : Array Oper) (n : Nat) : Bool :=
  Region.noSelect ops && decide (n < ops.size) && decide (0 < n) && sinkFrom md ops n 1 && Region.chainB md ops n && (Region.ready md ops (Array.replicate ops.size false)).contains 0 && Region.free md ops (Array.replicate ops.size false) 0 &&
    Region.lexHead md ops (ops.size - n) (n - 1) 1 ((Array.replicate ops.size false).setIfInBounds 0 true)

theorem wp_region_take_tail {id : Nat} {Q : Exit → Act → World → Prop} {a : Act} {w : World} {o : Oper} {l : List Oper} (n : Nat) (v : Value) (hm : P.follows .mixedOrders = true) (hB : takeTailB .any (o :: l).toArray n = true)
    (hQ : ∀ c a w, Q (.panic c) (a.put o.dst v) w → Q (.panic c) a w) (hy : Yields P (o :: l).toArray o v a)
    (h : wpQuiet P (o :: l).toArray (fun w' => ∃ x : Ext w, w' = x.world) (fun a' => ∀ x : Ext w, wpList P (o :: l).toArray Q ((o :: l).drop n) a' x.world) (l.take (n - 1)) (a.put o.dst v)) : (Code.region id (o :: l).toArray true).wp P Q a w := by
  simp only [takeTailB, Bool.and_eq_true, decide_eq_true_eq] at hB
  obtain ⟨⟨⟨⟨⟨⟨⟨hsel, hn⟩, hp⟩, hs⟩, hc⟩, hr⟩, hf⟩, hlex⟩ := hB
  have hlen : n ≤ l.length := by simp at hn; omega
  refine wp_region_any hm ?_
  have hsz : (o :: l).toArray.size = (n - 1) + ((o :: l).toArray.size - n) + 1 := by omega
  have inv0 : HeadInv .any (o :: l).toArray n (Array.replicate (o :: l).toArray.size false) :=
    ⟨by simp, fun j oj _ hl => (by rw [getD_replicate_false] at hl; cases hl), fun t _ ht => getD_in (by simpa using ht) (getD_replicate_false _ _)⟩
  have hr' : 0 ∈ Region.ready .any (o :: l).toArray (Array.replicate (o :: l).toArray.size false) := by simpa using hr
  have H := headQ_lex2 (P := P) (md := .any) (k0 := 1) (C := fun w' => ∃ x : Ext w, w' = x.world) (g := (o :: l).toArray.size - n) (Lq := fun a' => ∀ x : Ext w, wpList P (o :: l).toArray Q ((o :: l).drop n) a' x.world) hsel hs hc hn (l.take (n - 1)) 1 _ (a.put o.dst v) (Nat.le_refl _)
    (fun j hj => by
      have hj' : j < n - 1 := by simp at hj; omega
      simp [hj', Nat.add_comm 1 j]) (by simp; omega) (inv0.set hr' hp) (by rw [show (l.take (n - 1)).length = n - 1 by simp; omega]; exact hlex) h
  rw [show (l.take (n - 1)).length = n - 1 by simp; omega] at H
  have hdl : ((o :: l).drop n).length = (o :: l).toArray.size - n := by simp
  have K := headQ_any (Q' := Q) (g := (o :: l).toArray.size - n) (fun listed a' w' hw' hL => by
    obtain ⟨x, rfl⟩ := hw'
    have := wpAny_of_seq (md := .any) (Q' := Q) ((o :: l).drop n) n listed a' x.world (fun j => by simp [List.getElem?_drop]) (by rw [hdl]; exact hL.1) (hL.2 x)
    rwa [hdl] at this) _ _ _ w.drew ⟨⟨_, (Below.refl _ w).drew⟩, rfl⟩ H
  have T := wpAny_first (P := P) (md := .any) (Q := Q) (i := 0) (oi := o) (v := v) rfl (Region.noSelect_spec hsel) hQ _ _ a w.drew (Region.free_spec rfl hf) hr' hy K
  rwa [← hsz] at T
end
end
end Go.Proofs.Ytniknldeafmgaaa
