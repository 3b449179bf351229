/- Layer 1: the border, the area, and how a pen grows. -/
import Derived.Test.YtnjegnlfdbbleaaU
namespace Go.Proofs.Ytnjegnlfdbbleaa
open Go Go.RowKit Go.Shelf
attribute [local go_sem] Oper.semAt_some

/-- Into how many parts the points of the grid cut a side. -/
def stepsO (q : (Int × Int) × (Int × Int)) : Int := (Nat.gcd (q.2.1 - q.1.1).natAbs (q.2.2 - q.1.2).natAbs : Int)
theorem gcd_le_max (a b : Nat) (M : Nat) (ha : a ≤ M) (hb : b ≤ M) : Nat.gcd a b ≤ M := by
  rcases Nat.eq_zero_or_pos a with h | h
  · subst h; rw [Nat.gcd_zero_left]; exact hb
  · exact Nat.le_trans (Nat.gcd_le_left b h) ha
theorem stepsO_bd {q : (Int × Int) × (Int × Int)} (h1 : Sm 50 q.1) (h2 : Sm 50 q.2) : 0 ≤ stepsO q ∧ stepsO q ≤ 100 := by
  unfold Sm at h1 h2
  unfold stepsO
  have := gcd_le_max (q.2.1 - q.1.1).natAbs (q.2.2 - q.1.2).natAbs 100 (by omega) (by omega)
  omega
def borderI (n : Nat) (p : Nat → Int × Int) : Int := sumI (fun i => stepsO (sideAt n p i)) n
def sumB (pre : List Side) : Int := sumL (fun x : Side => stepsO x.1) pre
theorem sumB_snoc (pre : List Side) (x : Side) : sumB (pre ++ [x]) = sumB pre + stepsO x.1 := sumL_snoc _ _ _
theorem sumB_bd (pre : List Side) : -(100 * pre.length) ≤ sumB pre ∧ sumB pre ≤ 100 * pre.length := sumL_bd _ 100 (by omega) _ (fun x _ => by have := stepsO_bd x.2.1 x.2.2; omega)
theorem sumB_all {n : Nat} {p : Nat → Int × Int} {k : Nat} {ys : List Side} (h : ys.map (·.1) = sidesTo n p k) : sumB ys = sumI (fun i => stepsO (sideAt n p i)) k := by
  rw [← sumL_sides, ← h, sumL_map]; rfl

set_option maxRecDepth 100000 in
set_option maxHeartbeats 4000000 in
theorem border_any (b off n c : Nat) (p : Nat → Int × Int) (w : World) (h1 : 1 ≤ n) (h10 : n ≤ 10) (hs : ∀ i, i < n → Sm 50 (p i))
    (hc : ∀ i, i < n → w.cell? ⟨b, off + i * 2, none⟩ = some (.int .i64 (p i).1) ∧ w.cell? ⟨b, off + i * 2 + 1, none⟩ = some (.int .i64 (p i).2)) :
    Calls Try.prog 42 #[.slice (some ⟨b, off, none⟩) n c] w (Ret (.int .i64 (borderI n p)) w) := by
  have hb : b < w.heap.size := block_lt_of_cell (hc 0 (by omega)).1
  refine (callsIn_wide (n := 11)).1 (callsIn_of_wp_marks Try.func42 rfl trivial ?_ rfl)
  simp only [Try.ntmps42, List.size_toArray, List.length_cons, List.length_nil, Nat.reduceAdd, Nat.reduceSub, Array.replicate_succ, Array.replicate_zero, List.push_toArray, List.append_toArray, List.nil_append, List.cons_append]
  have hc := Lib.hid hc
  have hs := Lib.hid hs
  gi_wp2_with fail
  refine ⟨trivial, (callsIn_wide.2 (sides_any _ _ _ _)).mono ?_⟩
  rintro e w' ⟨rfl, rfl⟩
  simp only [World.size_alloc]
  gi_wp2_with fail
  have bS := Boxed.new w 3 (.int .i64 0)
  have bP := Boxed.new (w.alloc (.cells #[.int .i64 0] 3)) 54 (.slice (some ⟨b, off, none⟩) n c)
  rw [World.size_alloc] at bP
  replace bS := bS.alloc (.cells #[.slice (some ⟨b, off, none⟩) n c] 54)
  have hB0 : Below w.heap.size w ((w.alloc (.cells #[.int .i64 0] 3)).alloc (.cells #[.slice (some ⟨b, off, none⟩) n c] 54)) := b2 _ _ _
  have hsz : ((w.alloc (.cells #[.int .i64 0] 3)).alloc (.cells #[.slice (some ⟨b, off, none⟩) n c] 54)).heap.size = w.heap.size + 2 := by simp
  obtain ⟨W0, hW0⟩ : ∃ W0, (w.alloc (.cells #[.int .i64 0] 3)).alloc (.cells #[.slice (some ⟨b, off, none⟩) n c] 54) = W0 := ⟨_, rfl⟩
  rw [hW0] at bS bP hB0 hsz ⊢
  clear hW0
  refine wpIn_rangeFunc_ownH rfl (by omega) (gf := 64) (lb := #[.pointer (some ⟨w.heap.size + 1, 0, none⟩)]) rfl trivial (enters_of Try.func64 (by kernel_rfl) rfl)
    (sides_stops (w.heap.size + 1) w.heap.size b off n c p W0 h1 h10 hs.out hb hB0.size bP.cell (fun i hi => ⟨cellB hB0 (hc.out i hi).1, cellB hB0 (hc.out i hi).2⟩)) KeepB.trans (keepB_b hB0.size (by omega)) (Below.refl _ _) (fun _ => rfl)
    (fun pre W => Boxed W w.heap.size 3 (.int .i64 (sumB pre)) ∧ Below w.heap.size w W ∧ W0.heap.size ≤ W.heap.size)
    (fun _ _ _ => False)
    (OwnFrom.and (Own.from (boxed_own _ _ _) _) (OwnFrom.and (ownFrom_below (Nat.le_refl _) (by omega)) (fun _ _ _ _ hs hg _ => Nat.le_trans hs hg.size)))
    (fun _ _ _ _ _ hs _ _ => hs)
    ⟨bS, hB0, Nat.le_refl _⟩
    (fun x a' W => ∃ B1 B2, w.heap.size < B1 ∧ w.heap.size < B2 ∧ Box2 W B1 x.1.1.1 x.1.1.2 ∧ Box2 W B2 x.1.2.1 x.1.2.2 ∧ a' = { tmps := #[.slice (some ⟨b, off, none⟩) n c, undef, .int .i64 0, .pointer (some ⟨w.heap.size, 0, none⟩), .pointer (some ⟨B1, 0, none⟩), .pointer (some ⟨B2, 0, none⟩), .slice (some ⟨b, off, none⟩) n c, .func (.func 64) #[] #[.pointer (some ⟨w.heap.size + 1, 0, none⟩)], .agg #[.int .i64 x.1.1.1, .int .i64 x.1.1.2], .agg #[.int .i64 x.1.2.1, .int .i64 x.1.2.2], undef, undef, undef, undef, undef, undef], defers := [] })
    (fun x a' _ X Y row hs hg hr => by obtain ⟨B1, B2, q1, q2, q3, q4, q5⟩ := hs; exact ⟨B1, B2, q1, q2, box2_own q3 hg (fun r e => (hr r e).2), box2_own q4 hg (fun r e => (hr r e).2), q5⟩)
    ?assign ?body ?done ?stop
  case assign =>
    rintro l pre x W K ⟨bS1, hB1, hz1⟩ hK
    have hd : Below W.heap.size W ((W.alloc (.cells #[.int .i64 x.1.1.1, .int .i64 x.1.1.2] 65)).alloc (.cells #[.int .i64 x.1.2.1, .int .i64 x.1.2.2] 65)) := b2 _ _ _
    have hd := Lib.hid hd
    gi_wp2
    exact hK _ _ (keepsFrom_of hd.out) (KeepB.ext hB1.size (by omega) hd.out) ⟨(hd.out.block _ bS1.lt).trans bS1, nextB hB1 hd.out, Nat.le_trans hz1 hd.out.size⟩
      ⟨W.heap.size, W.heap.size + 1, by omega, by omega, ⟨by go_simp, by go_simp⟩, ⟨by go_simp, by go_simp⟩, rfl⟩
  case body =>
    rintro l pre x a' W hl ⟨r, hr⟩ ⟨bS1, hB1, hz1⟩ ⟨B1, B2, hl1, hl2, K1, K2, rfl⟩ hlt
    have xS := cellX bS1.cell
    have x10 := cellX K1.1
    have x11 := cellX K1.2
    have x20 := cellX K2.1
    have x21 := cellX K2.2
    obtain ⟨s1, s2⟩ := sumB_bd pre
    have t1 : 0 ≤ (Nat.gcd (x.1.2.1 - x.1.1.1).natAbs (x.1.2.2 - x.1.1.2).natAbs : Int) := (stepsO_bd x.2.1 x.2.2).1
    have t2 : (Nat.gcd (x.1.2.1 - x.1.1.1).natAbs (x.1.2.2 - x.1.1.2).natAbs : Int) ≤ 100 := (stepsO_bd x.2.1 x.2.2).2
    have S1 : Sm 1048576 (x.1.1.1, x.1.1.2) := x.2.1.mono (by omega)
    have S2 : Sm 1048576 (x.1.2.1, x.1.2.2) := x.2.2.mono (by omega)
    have u1 : (pre.length : Int) ≤ 10 := by omega
    have v1 : -100000 ≤ sumB pre := by omega
    have v2 : sumB pre ≤ 100000 := by omega
    clear s1 s2 u1
    gi_wp2
    refine wpIn_round_tail l 5 (by kernel_rfl) (by kernel_rfl) (by kernel_rfl) ?_
    dsimp only [List.take, List.drop]
    repeat (go_big_quiet_step ((go_at_call 61; exact callE (steps_any _ _ _ _ _ (by assumption) (by assumption)))))
    refine wpQuiet_nil ?_
    intro y
    have bS2 : Boxed y.world w.heap.size 3 (.int .i64 (sumB pre)) := (y.ok.block _ bS1.lt).trans bS1
    have cS := bS2.cell
    have fS := bS2.frozen
    clear xS x10 x11 x20 x21
    have hk1 : KeepsFrom W0.heap.size W y.world := keepsFrom_of y.ok
    have hk2 : KeepB w.heap.size (w.heap.size + 1) W y.world := KeepB.ext hB1.size (by omega) y.ok
    have hk3 := nextB hB1 y.ok
    have hk4 := Nat.le_trans hz1 y.ok.size
    have hk1 := Lib.hid hk1
    have hk2 := Lib.hid hk2
    have hk3 := Lib.hid hk3
    have hk4 := Lib.hid hk4
    gi_wp2
    exact round_end (by omega) hk1.out hk2.out hk3.out hk4.out bS2 (sumB_snoc pre x)
  case done =>
    rintro D zs W hD hz ⟨bS1, hB1, hz1⟩ hK
    have cS := bS1.cell
    have hz := Lib.hid hz
    gi_wp2
    refine ⟨by simp, .inl ⟨_, _, rfl, run_takeDeferred hK, ?_⟩⟩
    refine ⟨_, results_tmp rfl _ _ _, Ret.mk ?_ (hB1.trans (belowK_b (w := w) (Nat.le_refl _) W D _ _ (by omega) hK rfl rfl))⟩
    rw [sumB_all hz.out]
    rfl
  case stop =>
    rintro D c pre W _ _ h _
    exact h.elim
end Go.Proofs.Ytnjegnlfdbbleaa
