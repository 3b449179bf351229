/- Layer 1: twice the area, with its sign. -/
import Derived.Test.YtnjegnlfdbbleaaS
namespace Go.Proofs.Ytnjegnlfdbbleaa
open Go Go.RowKit Go.Shelf
attribute [local go_sem] Oper.semAt_some

/-- f 0 + .. + f (n - 1). -/
def sumI (f : Nat → Int) : Nat → Int
  | 0 => 0
  | n + 1 => sumI f n + f n
/-- The sum of g over a list. -/
def sumL {α : Type} (g : α → Int) (l : List α) : Int := l.foldl (fun s x => s + g x) 0
theorem sumL_snoc {α : Type} (g : α → Int) (l : List α) (x : α) : sumL g (l ++ [x]) = sumL g l + g x := by simp [sumL]
theorem sumL_sides (g : (Int × Int) × (Int × Int) → Int) (n : Nat) (p : Nat → Int × Int) (k : Nat) : sumL g (sidesTo n p k) = sumI (fun i => g (sideAt n p i)) k := by
  induction k with
  | zero => rfl
  | succ k ih => rw [sidesTo_succ, sumL_snoc, ih]; rfl
theorem sumL_map {α β : Type} (g : β → Int) (h : α → β) (l : List α) : sumL g (l.map h) = sumL (fun x => g (h x)) l := by simp [sumL, List.foldl_map]
theorem sumL_bd {α : Type} (g : α → Int) (B : Int) (hB : 0 ≤ B) (l : List α) (h : ∀ x ∈ l, -B ≤ g x ∧ g x ≤ B) : -(B * l.length) ≤ sumL g l ∧ sumL g l ≤ B * l.length := by
  suffices H : ∀ (l : List α) (s : Int), (∀ x ∈ l, -B ≤ g x ∧ g x ≤ B) → s - B * l.length ≤ l.foldl (fun s x => s + g x) s ∧ l.foldl (fun s x => s + g x) s ≤ s + B * l.length by
    have := H l 0 h
    unfold sumL
    omega
  intro l
  induction l with
  | nil => intro s _; simp
  | cons x l ih =>
    intro s h
    have h1 := h x (by simp)
    have h2 := ih (s + g x) (fun y hy => h y (by simp [hy]))
    simp only [List.foldl_cons, List.length_cons, Int.natCast_add, Int.natCast_one, Int.mul_add, Int.mul_one]
    omega

def crossO (q : (Int × Int) × (Int × Int)) : Int := crossI (0, 0) q.1 q.2
theorem crossO_bd {q : (Int × Int) × (Int × Int)} (h1 : Sm 50 q.1) (h2 : Sm 50 q.2) : -5000 ≤ crossO q ∧ crossO q ≤ 5000 := by
  obtain ⟨⟨a, b⟩, ⟨c, d⟩⟩ := q
  unfold Sm at h1 h2
  unfold crossO crossI
  simp only [Int.sub_zero] at *
  have h3 := mul_bd (x := a) (y := d) (X := 50) (Y := 50) (by omega) (by omega) (by omega) (by omega)
  have h4 := mul_bd (x := b) (y := c) (X := 50) (Y := 50) (by omega) (by omega) (by omega) (by omega)
  omega
/-- Twice the area, above 0 where the posts go around to the left. -/
def signedI (n : Nat) (p : Nat → Int × Int) : Int := sumI (fun i => crossO (sideAt n p i)) n
def sumC (pre : List Side) : Int := sumL (fun x : Side => crossO x.1) pre
theorem sumC_snoc (pre : List Side) (x : Side) : sumC (pre ++ [x]) = sumC pre + crossO x.1 := sumL_snoc _ _ _
theorem sumC_bd (pre : List Side) : -(5000 * pre.length) ≤ sumC pre ∧ sumC pre ≤ 5000 * pre.length := sumL_bd _ 5000 (by omega) _ (fun x _ => crossO_bd x.2.1 x.2.2)
theorem sumC_all {n : Nat} {p : Nat → Int × Int} {k : Nat} {ys : List Side} (h : ys.map (·.1) = sidesTo n p k) : sumC ys = sumI (fun i => crossO (sideAt n p i)) k := by
  rw [← sumL_sides, ← h, sumL_map]; rfl

theorem keepsFrom_of {B : Nat} {W W' : World} (h : Below W.heap.size W W') : KeepsFrom B W W' := ⟨h.size, fun k o _ hk _ => (h.block k (Array.getElem?_eq_some_iff.1 hk).1).trans hk⟩
theorem round_end {α : Type} {n₀ B Bs : Nat} {w W V : World} {pre : List α} {x : α} {f : List α → Int} {t : TypeId} {v : Int} {a : Act} {Ix : Code → List α → World → Prop} (hBs : Bs ≠ n₀) (h1 : KeepsFrom B W V) (h2 : KeepB n₀ Bs W V) (h3 : Below n₀ w V) (h4 : B ≤ V.heap.size)
    (hb : Boxed V n₀ t (.int .i64 (f pre))) (hv : f (pre ++ [x]) = v) :
    ownPostG B (KeepB n₀ Bs) (fun pre W => Boxed W n₀ t (.int .i64 (f pre)) ∧ Below n₀ w W ∧ B ≤ W.heap.size) Ix (pre ++ [x]) W .normal a (V.setCell ⟨n₀, 0, none⟩ (.int .i64 v)) := by
  refine ⟨h1.trans ((KeepsOthers.setCell _ _ _).from _), h2.trans ⟨(Below.refl _ _).setCell (p := ⟨n₀, 0, none⟩) (Nat.le_refl _) _, Below.heap_setCell _ _ _ _ hBs⟩, ?_, h3.setCell (p := ⟨n₀, 0, none⟩) (Nat.le_refl _) _, by simpa [World.setCell] using h4⟩
  rw [hv]
  exact hb.set _
theorem box2_own {W W' : World} {B : Nat} {x y : Int} {row : Option Nat} (h : Box2 W B x y) (hg : W.grownBy W' row) (hr : ∀ r, row = some r → ∃ o : Obj, W.heap[r]? = some o ∧ o.isCells = false) : Box2 W' B x y :=
  ⟨cell_kept h.1 hg hr, cell_kept h.2 hg hr⟩
set_option maxRecDepth 100000 in
set_option maxHeartbeats 4000000 in
theorem signed_any (b off n c : Nat) (p : Nat → Int × Int) (w : World) (h1 : 1 ≤ n) (h10 : n ≤ 10) (hs : ∀ i, i < n → Sm 50 (p i))
    (hc : ∀ i, i < n → w.cell? ⟨b, off + i * 2, none⟩ = some (.int .i64 (p i).1) ∧ w.cell? ⟨b, off + i * 2 + 1, none⟩ = some (.int .i64 (p i).2)) :
    Calls Try.prog 60 #[.slice (some ⟨b, off, none⟩) n c] w (Ret (.int .i64 (signedI n p)) w) := by
  have hb : b < w.heap.size := block_lt_of_cell (hc 0 (by omega)).1
  refine (callsIn_wide (n := 11)).1 (callsIn_of_wp_marks Try.func60 rfl trivial ?_ rfl)
  simp only [Try.ntmps60, List.size_toArray, List.length_cons, List.length_nil, Nat.reduceAdd, Nat.reduceSub, Array.replicate_succ, Array.replicate_zero, List.push_toArray, List.append_toArray, List.nil_append, List.cons_append]
  have hc := Lib.hid hc
  have hs := Lib.hid hs
  gi_wp2_with fail
  refine ⟨trivial, (callsIn_wide.2 (sides_any _ _ _ _)).mono ?_⟩
  rintro e w' ⟨rfl, rfl⟩
  simp only [World.size_alloc]
  gi_wp2_with fail
  have bS := Boxed.new w 3 (.int .i64 0)
  have bP := Boxed.new (w.alloc (.cells #[.int .i64 0] 3)) 54 (.slice (some ⟨b, off, none⟩) n c)
  rw [World.size_alloc] at bP
  replace bS := bS.alloc (.cells #[.slice (some ⟨b, off, none⟩) n c] 54)
  have hB0 : Below w.heap.size w ((w.alloc (.cells #[.int .i64 0] 3)).alloc (.cells #[.slice (some ⟨b, off, none⟩) n c] 54)) := b2 _ _ _
  have hsz : ((w.alloc (.cells #[.int .i64 0] 3)).alloc (.cells #[.slice (some ⟨b, off, none⟩) n c] 54)).heap.size = w.heap.size + 2 := by simp
  obtain ⟨W0, hW0⟩ : ∃ W0, (w.alloc (.cells #[.int .i64 0] 3)).alloc (.cells #[.slice (some ⟨b, off, none⟩) n c] 54) = W0 := ⟨_, rfl⟩
  rw [hW0] at bS bP hB0 hsz ⊢
  clear hW0
  refine wpIn_rangeFunc_ownH rfl (by omega) (gf := 64) (lb := #[.pointer (some ⟨w.heap.size + 1, 0, none⟩)]) rfl trivial (enters_of Try.func64 (by kernel_rfl) rfl)
    (sides_stops (w.heap.size + 1) w.heap.size b off n c p W0 h1 h10 hs.out hb hB0.size bP.cell (fun i hi => ⟨cellB hB0 (hc.out i hi).1, cellB hB0 (hc.out i hi).2⟩)) KeepB.trans (keepB_b hB0.size (by omega)) (Below.refl _ _) (fun _ => rfl)
    (fun pre W => Boxed W w.heap.size 3 (.int .i64 (sumC pre)) ∧ Below w.heap.size w W ∧ W0.heap.size ≤ W.heap.size)
    (fun _ _ _ => False)
    (OwnFrom.and (Own.from (boxed_own _ _ _) _) (OwnFrom.and (ownFrom_below (Nat.le_refl _) (by omega)) (fun _ _ _ _ hs hg _ => Nat.le_trans hs hg.size)))
    (fun _ _ _ _ _ hs _ _ => hs)
    ⟨bS, hB0, Nat.le_refl _⟩
    (fun x a' W => ∃ B1 B2, w.heap.size < B1 ∧ w.heap.size < B2 ∧ Box2 W B1 x.1.1.1 x.1.1.2 ∧ Box2 W B2 x.1.2.1 x.1.2.2 ∧ a' = { tmps := #[.slice (some ⟨b, off, none⟩) n c, undef, .int .i64 0, .pointer (some ⟨w.heap.size, 0, none⟩), .pointer (some ⟨B1, 0, none⟩), .pointer (some ⟨B2, 0, none⟩), .slice (some ⟨b, off, none⟩) n c, .func (.func 64) #[] #[.pointer (some ⟨w.heap.size + 1, 0, none⟩)], .agg #[.int .i64 x.1.1.1, .int .i64 x.1.1.2], .agg #[.int .i64 x.1.2.1, .int .i64 x.1.2.2], undef, undef, undef, undef, undef, undef, undef], defers := [] })
    (fun x a' _ X Y row hs hg hr => by obtain ⟨B1, B2, q1, q2, q3, q4, q5⟩ := hs; exact ⟨B1, B2, q1, q2, box2_own q3 hg (fun r e => (hr r e).2), box2_own q4 hg (fun r e => (hr r e).2), q5⟩)
    ?assign ?body ?done ?stop
  case assign =>
    rintro l pre x W K ⟨bS1, hB1, hz1⟩ hK
    have hd : Below W.heap.size W ((W.alloc (.cells #[.int .i64 x.1.1.1, .int .i64 x.1.1.2] 65)).alloc (.cells #[.int .i64 x.1.2.1, .int .i64 x.1.2.2] 65)) := b2 _ _ _
    have hd := Lib.hid hd
    gi_wp2
    exact hK _ _ (keepsFrom_of hd.out) (KeepB.ext hB1.size (by omega) hd.out) ⟨(hd.out.block _ bS1.lt).trans bS1, nextB hB1 hd.out, Nat.le_trans hz1 hd.out.size⟩
      ⟨W.heap.size, W.heap.size + 1, by omega, by omega, ⟨by go_simp, by go_simp⟩, ⟨by go_simp, by go_simp⟩, rfl⟩
  case body =>
    rintro l pre x a' W hl ⟨r, hr⟩ ⟨bS1, hB1, hz1⟩ ⟨B1, B2, hl1, hl2, K1, K2, rfl⟩ hlt
    have xS := cellX bS1.cell
    have x10 := cellX K1.1
    have x11 := cellX K1.2
    have x20 := cellX K2.1
    have x21 := cellX K2.2
    obtain ⟨s1, s2⟩ := sumC_bd pre
    have t1 : -5000 ≤ crossI (0, 0) (x.1.1.1, x.1.1.2) (x.1.2.1, x.1.2.2) := (crossO_bd x.2.1 x.2.2).1
    have t2 : crossI (0, 0) (x.1.1.1, x.1.1.2) (x.1.2.1, x.1.2.2) ≤ 5000 := (crossO_bd x.2.1 x.2.2).2
    have S0 : Sm 1048576 ((0 : Int), (0 : Int)) := by unfold Sm; simp
    have S1 : Sm 1048576 (x.1.1.1, x.1.1.2) := x.2.1.mono (by omega)
    have S2 : Sm 1048576 (x.1.2.1, x.1.2.2) := x.2.2.mono (by omega)
    have u1 : (pre.length : Int) ≤ 10 := by omega
    have v1 : -100000 ≤ sumC pre := by omega
    have v2 : sumC pre ≤ 100000 := by omega
    clear s1 s2 u1
    gi_wp2
    refine wpIn_round_tail l 6 (by kernel_rfl) (by kernel_rfl) (by kernel_rfl) ?_
    dsimp only [List.take, List.drop]
    repeat (go_big_quiet_step ((go_at_call 52; exact callE (turn_any _ _ _ _ _ _ _ (by assumption) (by assumption) (by assumption)))))
    refine wpQuiet_nil ?_
    intro y
    have bS2 : Boxed y.world w.heap.size 3 (.int .i64 (sumC pre)) := (y.ok.block _ bS1.lt).trans bS1
    have cS := bS2.cell
    have fS := bS2.frozen
    clear xS x10 x11 x20 x21
    have hk1 : KeepsFrom W0.heap.size W y.world := keepsFrom_of y.ok
    have hk2 : KeepB w.heap.size (w.heap.size + 1) W y.world := KeepB.ext hB1.size (by omega) y.ok
    have hk3 := nextB hB1 y.ok
    have hk4 := Nat.le_trans hz1 y.ok.size
    have hk1 := Lib.hid hk1
    have hk2 := Lib.hid hk2
    have hk3 := Lib.hid hk3
    have hk4 := Lib.hid hk4
    gi_wp2
    exact round_end (by omega) hk1.out hk2.out hk3.out hk4.out bS2 (sumC_snoc pre x)
  case done =>
    rintro D zs W hD hz ⟨bS1, hB1, hz1⟩ hK
    have cS := bS1.cell
    have hz := Lib.hid hz
    gi_wp2
    refine ⟨by simp, .inl ⟨_, _, rfl, run_takeDeferred hK, ?_⟩⟩
    refine ⟨_, results_tmp rfl _ _ _, Ret.mk ?_ (hB1.trans (belowK_b (w := w) (Nat.le_refl _) W D _ _ (by omega) hK rfl rfl))⟩
    rw [sumC_all hz.out]
    rfl
  case stop =>
    rintro D c pre W _ _ h _
    exact h.elim
end Go.Proofs.Ytnjegnlfdbbleaa
