/- Layer 4, by the program: who wins a turn: all calls among one another. -/
import Derived.Test.YtbdhceolchhnjaaDoorAi
namespace Go.Proofs.YtbdhceolchhnjaaDoor
open Go Go.RowKit

abbrev gV (m : Nat) (a : Option Addr) (n c B : Nat) : Value := .agg #[.int .i64 (m : Nat), .slice a n c, .map (some B)]
/-- A world behind w in which only the map and new memory has turned. -/
structure ExtK (m : Nat) (R : List Int) (B : Nat) (w : World) where
  world : World
  keep : Keep B w world
  km : KM m R B world
def ExtK.start {m : Nat} {R : List Int} {B : Nat} {w : World} (h : KM m R B w) : ExtK m R B w := ⟨w, Keep.refl _ _, h⟩
theorem wp_region_extK {P : Program} {id : Nat} {Q : Exit → Act → World → Prop} {a : Act} {w : World} {l : List Oper} {m : Nat} {R : List Int} {B : Nat} (hk : KM m R B w) (hm : P.follows .mixedOrders = true) (hB : Region.lexB .any l.toArray = true)
    (h : wpQuiet P l.toArray (fun w' => ∃ x : ExtK m R B w, w' = x.world) (fun a' => ∀ x : ExtK m R B w, Q .normal a' x.world) l a) : (Code.region id l.toArray true).wp P Q a w :=
  wp_region_quiet (C := fun w' => ∃ x : ExtK m R B w, w' = x.world) hm hB ⟨⟨_, Keep.of (Below.refl _ w).drew, hk.next (Below.refl _ w).drew⟩, rfl⟩ (by
    have e : (fun a' => ∀ w', (∃ x : ExtK m R B w, w' = x.world) → Q .normal a' w') = fun a' => ∀ x : ExtK m R B w, Q .normal a' x.world := by
      funext a'
      exact propext ⟨fun h x => h _ ⟨x, rfl⟩, fun h w' ⟨x, e⟩ => e ▸ h x⟩
    rw [e]
    simpa using h)
/-- A call returned v, and turned the map alone. -/
def RetK (m : Nat) (R : List Int) (B : Nat) (v : Value) (w : World) (e : Ending) (w' : World) : Prop := e = .returned v ∧ Keep B w w' ∧ KM m R B w'
theorem Ret.toK {m : Nat} {R : List Int} {B : Nat} {v : Value} {w w' : World} {e : Ending} (hk : KM m R B w) (h : Ret v w e w') : RetK m R B v w e w' := ⟨h.1, Keep.of h.2, hk.next h.2⟩
section
variable {P : Program} {f : FuncId} {args : Array Value} {w : World} {m : Nat} {R : List Int} {B : Nat} {x : ExtK m R B w} {v : Value}
theorem callK (h : Calls P f args x.world (RetK m R B v x.world)) : Calls P f args x.world fun e w'' => e = .returned v ∧ ∃ y : ExtK m R B w, w'' = y.world :=
  h.mono fun _ w'' ⟨he, hb, hk⟩ => ⟨he, ⟨w'', x.keep.trans hb, hk⟩, rfl⟩
theorem callKR (h : Calls P f args x.world (Ret v x.world)) : Calls P f args x.world fun e w'' => e = .returned v ∧ ∃ y : ExtK m R B w, w'' = y.world :=
  callK (h.mono fun _ _ k => Ret.toK x.km k)
end
theorem cellXK {w : World} {m : Nat} {R : List Int} {B b o : Nat} {v : Value} (hp : b ≠ B) (h : w.cell? ⟨b, o, none⟩ = some v) (x : ExtK m R B w) : x.world.cell? ⟨b, o, none⟩ = some v := x.keep.cell (p := ⟨b, o, none⟩) hp h
theorem Blk.c3 {W : World} {B : Nat} {t : TypeId} {u v s : Value} (h : Blk W B t #[u, v, s]) : W.cell? ⟨B, 0, none⟩ = some u ∧ W.cell? ⟨B, 1, none⟩ = some v ∧ W.cell? ⟨B, 2, none⟩ = some s := ⟨h.c 0 rfl, h.c 1 rfl, h.c 2 rfl⟩
/-- The field's lines and the table, as they lay when the game began. -/
structure StG (m : Nat) (a : Option Addr) (R : List Int) (B : Nat) (w0 w : World) : Prop where
  below : Below w0.heap.size w0 w
  km : KM m R B w
  lo : w0.heap.size ≤ B
  ints : Ints w0 a R
  tab : Tab w0
theorem StG.step {m : Nat} {a : Option Addr} {R : List Int} {B : Nat} {w0 w w' : World} (h : StG m a R B w0 w) (hk : Keep B w w') (hm : KM m R B w') : StG m a R B w0 w' := ⟨hk.below h.below h.lo, hm, h.lo, h.ints, h.tab⟩
theorem StG.next {m : Nat} {a : Option Addr} {R : List Int} {B : Nat} {w0 w w' : World} (h : StG m a R B w0 w) (hb : Below w.heap.size w w') : StG m a R B w0 w' := h.step (Keep.of hb) (h.km.next hb)
/-- Who wins, behind a move of the next one. -/
def wafter (m : Nat) (R : List Int) (x y s i : Nat) : Nat := sd (win m R (tkW x s i) (tkD y s i) (1 - s == 1))
def wB (m : Nat) (R : List Int) (x y s i : Nat) : Bool := wafter m R x y s i == s
set_option maxRecDepth 100000 in
theorem wins_any (m : Nat) (a : Option Addr) (n c : Nat) (R : List Int) (B x y s i : Nat) (w : World) (hk : KM m R B w) (hx : x < 65536) (hy : y < 65536) (hs : s < 2) (hi : i < 16)
    (W : ∀ w', Keep B w w' → KM m R B w' → Calls Tryd.prog 42 #[gV m a n c B, tV (tkW x s i) (tkD y s i) (1 - s)] w' (RetK m R B (.int .i64 (wafter m R x y s i : Nat)) w')) :
    Calls Tryd.prog 77 #[gV m a n c B, tV x y s, .int .i64 (i : Nat)] w (RetK m R B (.bool (wB m R x y s i)) w) := by
  have hlt := hk.lt
  have hA := (Blk.new w 70 #[.int .i64 (m : Nat), .slice a n c, .map (some B)]).alloc (.cells #[.int .i64 (x : Nat), .int .i64 (y : Nat), .int .i64 (s : Nat)] 65)
  have hT : Blk ((w.alloc (.cells #[.int .i64 (m : Nat), .slice a n c, .map (some B)] 70)).alloc (.cells #[.int .i64 (x : Nat), .int .i64 (y : Nat), .int .i64 (s : Nat)] 65)) (w.heap.size + 1) 65 #[.int .i64 (x : Nat), .int .i64 (y : Nat), .int .i64 (s : Nat)] := by
    have := Blk.new (w.alloc (.cells #[.int .i64 (m : Nat), .slice a n c, .map (some B)] 70)) 65 #[.int .i64 (x : Nat), .int .i64 (y : Nat), .int .i64 (s : Nat)]
    simpa using this
  have hb := b2 w (.cells #[.int .i64 (m : Nat), .slice a n c, .map (some B)] 70) (.cells #[.int .i64 (x : Nat), .int .i64 (y : Nat), .int .i64 (s : Nat)] 65)
  have hk1 := hk.next hb
  have A := Lib.hid (fun W => after_any x y s i hs hx hy hi W)
  replace W := Lib.hid W
  unfold wB
  generalize wafter m R x y s i = r at *
  generalize tkW x s i = u at *
  generalize tkD y s i = v at *
  generalize 1 - s = t at *
  have hbe : ((r : Int) == (s : Int)) = (r == s) := beq_nat r s
  go_enter Tryd.func77, Tryd.ntmps77
  go_wp2
  generalize (w.alloc (.cells #[.int .i64 (m : Nat), .slice a n c, .map (some B)] 70)).alloc (.cells #[.int .i64 (x : Nat), .int .i64 (y : Nat), .int .i64 (s : Nat)] 65) = w1 at *
  obtain ⟨x0', x1', x2'⟩ := hA.c3
  obtain ⟨y0', y1', y2'⟩ := hT.c3
  have x0 := cellXK (m := m) (R := R) (B := B) (by omega) x0'
  have x1 := cellXK (m := m) (R := R) (B := B) (by omega) x1'
  have x2 := cellXK (m := m) (R := R) (B := B) (by omega) x2'
  have y0 := cellXK (m := m) (R := R) (B := B) (by omega) y0'
  have y1 := cellXK (m := m) (R := R) (B := B) (by omega) y1'
  have y2 := cellXK (m := m) (R := R) (B := B) (by omega) y2'
  clear x0' x1' x2' y0' y1' y2'
  clear hA hT
  have hb' := Lib.hid hb
  have K := Lib.hid (fun (z : ExtK m R B w1) => callK (W.out z.world ((Keep.of hb).trans z.keep) z.km))
  clear hb
  refine wp_region_extK hk1 (by kernel_rfl) (by kernel_rfl) ?_
  repeat (go_big_quiet_step (first | exact rfl | with_reducible exact callKR (A.out _) | with_reducible exact K.out _))
  refine wpQuiet_nil ?_
  rintro ⟨w2, hw2, hk2⟩
  dsimp only
  clear x0 x1 x2 y0 y1 y2
  go_wp2
  go_ret
  refine ⟨?_, (Keep.of hb'.out).trans hw2, hk2⟩
  first | rfl | (rw [← hbe]; rfl)
end Go.Proofs.YtbdhceolchhnjaaDoor
