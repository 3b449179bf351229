/- Layer 7, by the program: the first winning move of a game. -/
import Derived.Test.YtdafpjapepfniaaWg
namespace Go.Proofs.Ytdafpjapepfniaa
open Go Go.RowKit Go.Shelf
attribute [local go_sem] Oper.semAt_some

abbrev h0 : Hp := ⟨0, 0, 0, 0, 0, 0, 0⟩
/-- What is the first winning move, was returned. -/
def BestR (row : Option Nat) (Inv : World → Prop) (o : Option Hp) (w : World) (e : Ending) (w' : World) : Prop := e = .returned (.tuple #[hV (o.getD h0), .bool o.isSome]) ∧ w.grownBy w' row ∧ Inv w'
theorem blk_set7 {W : World} {B : Nat} {t : TypeId} {h : Hp} (k : Blk W B t (hC h)) (x : Hp) :
    Blk (((((((W.setCell ⟨B, 0, none⟩ (.int .i64 x.s0)).setCell ⟨B, 1, none⟩ (.int .i64 x.s1)).setCell ⟨B, 2, none⟩ (.int .i64 x.s2)).setCell ⟨B, 3, none⟩ (.int .i64 x.s3)).setCell ⟨B, 4, none⟩ (.int .i64 x.s4)).setCell ⟨B, 5, none⟩ (.int .i64 x.s5)).setCell ⟨B, 6, none⟩ (.int .i64 x.lim)) B t (hC x) := by
  have k7 := ((((((k.setA (i := 0) (.int .i64 x.s0)).setA (i := 1) (.int .i64 x.s1)).setA (i := 2) (.int .i64 x.s2)).setA (i := 3) (.int .i64 x.s3)).setA (i := 4) (.int .i64 x.s4)).setA (i := 5) (.int .i64 x.s5)).setA (i := 6) (.int .i64 x.lim)
  simp only [List.setIfInBounds_toArray, List.set_cons_zero, List.set_cons_succ] at k7
  exact k7
theorem grown_set (W : World) (b i : Nat) (v : Value) : W.grownBy (W.setCell ⟨b, i, none⟩ v) (some b) :=
  ⟨rfl, rfl, rfl, (KeepsWalks.setCell W _ v).size, fun k _ hk => Below.heap_setCell _ _ _ k (fun e => hk (by rw [e]))⟩
/-- The seven cells of a block, set. -/
abbrev put7 (W : World) (B : Nat) (x : Hp) : World := ((((((W.setCell ⟨B, 0, none⟩ (.int .i64 x.s0)).setCell ⟨B, 1, none⟩ (.int .i64 x.s1)).setCell ⟨B, 2, none⟩ (.int .i64 x.s2)).setCell ⟨B, 3, none⟩ (.int .i64 x.s3)).setCell ⟨B, 4, none⟩ (.int .i64 x.s4)).setCell ⟨B, 5, none⟩ (.int .i64 x.s5)).setCell ⟨B, 6, none⟩ (.int .i64 x.lim)
theorem grown_put7 (W : World) (B : Nat) (x : Hp) : W.grownBy (put7 W B x) (some B) :=
  ((((((grown_set W B 0 _).trans (grown_set _ B 1 _)).trans (grown_set _ B 2 _)).trans (grown_set _ B 3 _)).trans (grown_set _ B 4 _)).trans (grown_set _ B 5 _)).trans (grown_set _ B 6 _)
/-- The two results of best, set. -/
theorem put_out {w W : World} {row : Option Nat} {n₀ base : Nat} {Inv : World → Prop} (hI : ∀ A B r, Inv A → (∀ k, r = some k → n₀ ≤ k) → A.grownBy B r → Inv B) {y x : Hp} {b b' : Bool} (hn : n₀ ≤ w.heap.size) (hb : w.heap.size + 4 ≤ base) (h1 : Inv W) (h2 : w.grownBy W row)
    (h3 : Blk W (w.heap.size + 1 + 1) 60 (hC y)) (h4 : Blk W (w.heap.size + 1 + 1 + 1) 4 #[.bool b]) :
    KeepsFrom base W ((put7 W (w.heap.size + 1 + 1) x).setCell ⟨w.heap.size + 1 + 1 + 1, 0, none⟩ (.bool b')) ∧ Inv ((put7 W (w.heap.size + 1 + 1) x).setCell ⟨w.heap.size + 1 + 1 + 1, 0, none⟩ (.bool b')) ∧ w.grownBy ((put7 W (w.heap.size + 1 + 1) x).setCell ⟨w.heap.size + 1 + 1 + 1, 0, none⟩ (.bool b')) row ∧
    Blk ((put7 W (w.heap.size + 1 + 1) x).setCell ⟨w.heap.size + 1 + 1 + 1, 0, none⟩ (.bool b')) (w.heap.size + 1 + 1) 60 (hC x) ∧ Blk ((put7 W (w.heap.size + 1 + 1) x).setCell ⟨w.heap.size + 1 + 1 + 1, 0, none⟩ (.bool b')) (w.heap.size + 1 + 1 + 1) 4 #[.bool b'] := by
  have g1 := grown_put7 W (w.heap.size + 1 + 1) x
  have g2 := grown_set (put7 W (w.heap.size + 1 + 1) x) (w.heap.size + 1 + 1 + 1) 0 (.bool b')
  have k4 := blk_grown h4 g1 (by simp)
  refine ⟨(KeepsFrom.of_grownBy g1 (fun j e => by cases e; omega)).trans (KeepsFrom.of_grownBy g2 (fun j e => by cases e; omega)), hI _ _ _ (hI _ _ _ h1 (fun k e => by cases e; omega) g1) (fun k e => by cases e; omega) g2,
    (h2.andThen g1 (fun j e => .inl (by cases e; omega))).andThen g2 (fun j e => .inl (by cases e; omega)), blk_grown (blk_set7 h3 x) g2 (by simp), ?_⟩
  have := k4.setA (i := 0) (.bool b')
  simpa using this
theorem best_results {X : World} {tmps : Array Value} {B4 B5 : Nat} {x : Hp} {b : Bool} (h4 : Blk X B4 60 (hC x)) (h5 : Blk X B5 4 #[.bool b]) (t4 : tmps.getD 4 undef = .pointer (some ⟨B4, 0, none⟩)) (t5 : tmps.getD 5 undef = .pointer (some ⟨B5, 0, none⟩)) :
    (results Try.f48 tmps).run Try.prog X = .ok (.tuple #[hV x, .bool b]) X := by
  obtain ⟨c0, c1, c2, c3, c4, c5, c6⟩ := h4.c7
  have c7 := h5.c 0 rfl
  rw [Array.getD_eq_getD_getElem?] at t4 t5
  simp [results, Try.results48, go_sem, t4, t5, c0, c1, c2, c3, c4, c5, c6, c7]
theorem keepsFrom_of {B : Nat} {W W' : World} (h : Below W.heap.size W W') : KeepsFrom B W W' := ⟨h.size, fun k o _ hk _ => (h.block k (Array.getElem?_eq_some_iff.1 hk).1).trans hk⟩
set_option maxRecDepth 100000 in
set_option maxHeartbeats 4000000 in
theorem best_gen (row : Option Nat) (n₀ : Nat) (Inv : World → Prop) (mf : Nat) (mc : Array Value) (wf : Nat) (wc : Array Value) (h : Hp) (L : List Hp) (f : Hp → Bool) (w : World)
    (hmf : ∀ args W, (callFunc mf args).run Try.prog W = .ok (.enter mf args) W) (hwf : ∀ args W, (callFunc wf args).run Try.prog W = .ok (.enter wf args) W)
    (M : ∀ A, Inv A → Calls Try.prog mf (#[hV h] ++ mc) A (NewH L A))
    (V : ∀ A x, x ∈ L → Inv A → Calls Try.prog wf (#[hV x] ++ wc) A fun e B => e = .returned (.bool (f x)) ∧ A.grownBy B row ∧ Inv B)
    (hI : ∀ A B r, Inv A → (∀ k, r = some k → n₀ ≤ k) → A.grownBy B r → Inv B) (hz : ∀ A, Inv A → n₀ ≤ A.heap.size) (hr : ∀ k, row = some k → k < n₀) (hn : L.length ≤ 1000) (h0w : Inv w) :
    Calls Try.prog 48 #[gmV mf mc wf wc, hV h] w (BestR row Inv (L.filter fun x => !f x).head? w) := by
  obtain ⟨o, ho⟩ : ∃ o, Hid ((L.filter fun x => !f x).head? = o) := ⟨_, Lib.hid rfl⟩
  rw [ho.out]
  have hzw := hz _ h0w
  obtain ⟨W0, hW0⟩ : ∃ W0, (((w.alloc (.cells (gmC mf mc wf wc) 65)).alloc (.cells (hC h) 60)).alloc (.cells (hC h0) 60)).alloc (.cells #[.bool false] 4) = W0 := ⟨_, rfl⟩
  have hb0 := b4 w (.cells (gmC mf mc wf wc) 65) (.cells (hC h) 60) (.cells (hC h0) 60) (.cells #[.bool false] 4)
  have hs0 : W0.heap.size = w.heap.size + 4 := by rw [← hW0]; simp
  have k0 : Blk W0 w.heap.size 65 (gmC mf mc wf wc) := by rw [← hW0]; exact (((Blk.new w _ _).alloc _).alloc _).alloc _
  have k1 : Blk W0 (w.heap.size + 1) 60 (hC h) := by
    rw [← hW0]
    have := Blk.new (w.alloc (.cells (gmC mf mc wf wc) 65)) 60 (hC h)
    rw [World.size_alloc] at this
    exact (this.alloc _).alloc _
  have k2 : Blk W0 (w.heap.size + 1 + 1) 60 (hC h0) := by
    rw [← hW0]
    have := Blk.new ((w.alloc (.cells (gmC mf mc wf wc) 65)).alloc (.cells (hC h) 60)) 60 (hC h0)
    rw [World.size_alloc, World.size_alloc] at this
    exact this.alloc _
  have k3 : Blk W0 (w.heap.size + 1 + 1 + 1) 4 #[.bool false] := by
    rw [← hW0]
    have := Blk.new (((w.alloc (.cells (gmC mf mc wf wc) 65)).alloc (.cells (hC h) 60)).alloc (.cells (hC h0) 60)) 4 #[.bool false]
    rw [World.size_alloc, World.size_alloc, World.size_alloc] at this
    exact this
  rw [hW0] at hb0
  obtain ⟨g0, g1⟩ := k0.c2f
  obtain ⟨e0, e1, e2, e3, e4, e5, e6⟩ := k1.c7
  clear k0 k1
  replace hs0 := Lib.hid hs0
  replace k2 := Lib.hid k2
  replace k3 := Lib.hid k3
  replace hb0 := Lib.hid hb0
  replace M := Lib.hid M
  replace V := Lib.hid V
  replace hI := Lib.hid hI
  replace hz := Lib.hid hz
  replace hr := Lib.hid hr
  replace h0w := Lib.hid h0w
  have hn' := Lib.hid hn
  refine (callsIn_wide (n := 11)).1 (callsIn_of_wp_marks Try.func48 rfl trivial ?_ rfl)
  simp only [Try.ntmps48, List.size_toArray, List.length_cons, List.length_nil, Nat.reduceAdd, Nat.reduceSub, Array.replicate_succ, Array.replicate_zero, List.push_toArray, List.append_toArray, List.nil_append, List.cons_append]
  gi_wp2_with fail
  refine ⟨trivial, (callsIn_wide.2 (winning_any mf mc wf wc h W0)).mono ?_⟩
  rintro e w1 ⟨rfl, hw1⟩
  have B1 := b2 W0 (.cells (gmC mf mc wf wc) 65) (.cells (hC h) 60)
  have kg : Blk w1 W0.heap.size 65 (gmC mf mc wf wc) := by rw [hw1]; exact (Blk.new W0 _ _).alloc _
  have kh : Blk w1 (W0.heap.size + 1) 60 (hC h) := by
    rw [hw1]
    have := Blk.new (W0.alloc (.cells (gmC mf mc wf wc) 65)) 60 (hC h)
    rwa [World.size_alloc] at this
  rw [← hw1] at B1
  have hs1 : W0.heap.size + 2 ≤ w1.heap.size := by rw [hw1]; simp
  clear hw1 g0 g1 e0 e1 e2 e3 e4 e5 e6
  have k2 := Lib.hid (k2.out.ext B1)
  have k3 := Lib.hid (k3.out.ext B1)
  have hb1 := Lib.hid (nextB hb0.out B1)
  have iv1 : Hid (InvG Inv mf mc wf wc h W0.heap.size (W0.heap.size + 1) w1) := Lib.hid ⟨hI.out _ _ none h0w.out (fun k hk => by cases hk) (grown_below hb1.out _), kg, kh⟩
  have hs0' : w.heap.size + 4 ≤ W0.heap.size := by have := hs0.out; omega
  have hrw : ∀ k, row = some k → k < w.heap.size := fun k hk => by have := hr.out k hk; omega
  have hrw := Lib.hid hrw
  clear kg kh hW0
  gi_wp2_with fail
  refine wpIn_rangeFunc_G (row := row) (Inv := InvG Inv mf mc wf wc h W0.heap.size (W0.heap.size + 1)) (Kp := KpH) rfl (by omega) (gf := 80) (lb := #[.pointer (some ⟨W0.heap.size, 0, none⟩), .pointer (some ⟨W0.heap.size + 1, 0, none⟩)]) rfl trivial (enters_of Try.func80 (by kernel_rfl) rfl)
    (winning1_G row Inv mf mc wf wc h L f W0.heap.size (W0.heap.size + 1) hmf hwf M.out V.out (fun A B ha hab => hI.out A B none ha (fun k hk => by cases hk) hab) (fun A r ha hk => by have := hr.out r hk; have := hz.out A ha; omega)
      (fun e => by have := hrw.out _ e.symm; omega) (fun e => by have := hrw.out _ e.symm; omega) hn'.out)
    (fun r hk => by have := hrw.out r hk; omega) KpH.trans KpH.putObj (fun _ => rfl)
    (fun pre W => pre = [] ∧ InvG Inv mf mc wf wc h W0.heap.size (W0.heap.size + 1) W ∧ w.grownBy W row ∧ Blk W (w.heap.size + 1 + 1) 60 (hC h0) ∧ Blk W (w.heap.size + 1 + 1 + 1) 4 #[.bool false])
    (fun c pre W => c = .ret ∧ ∃ x, pre = [x] ∧ Inv W ∧ w.grownBy W row ∧ Blk W (w.heap.size + 1 + 1) 60 (hC x) ∧ Blk W (w.heap.size + 1 + 1 + 1) 4 #[.bool true])
    ?own ?ownx ?ii ?ig ⟨rfl, iv1.out, grown_below hb1.out _, k2.out, k3.out⟩
    (fun x a' W => ∃ B, Blk W B 60 (hC x) ∧ a' = { tmps := #[gmV mf mc wf wc, hV h, Value.pointer (some ⟨w.heap.size, 0, none⟩), Value.pointer (some ⟨w.heap.size + 1, 0, none⟩), Value.pointer (some ⟨w.heap.size + 1 + 1, 0, none⟩), Value.pointer (some ⟨w.heap.size + 1 + 1 + 1, 0, none⟩), .pointer (some ⟨B, 0, none⟩), Value.agg #[fnV mf mc, fnV wf wc], hV h, fnV 80 #[.pointer (some ⟨W0.heap.size, 0, none⟩), .pointer (some ⟨W0.heap.size + 1, 0, none⟩)], hV x, undef, undef], defers := [] })
    ?ax ?assign ?body ?done ?stop
  case own =>
    intro s A B r ⟨q0, q1, q2, q3, q4⟩ hg hk
    have hne : ∀ k, k < w1.heap.size → some k ≠ r := fun k hk1 e => by have := (hk k e.symm).1; omega
    exact ⟨q0, ⟨hI.out _ _ r q1.1 (fun k e => by have := (hk k e).1; omega) hg, blk_grown q1.2.1 hg (hne _ (by omega)), blk_grown q1.2.2 hg (hne _ (by omega))⟩,
      (q2.andThen hg (fun j e => .inl (by have := (hk j e).1; omega))), blk_grown q3 hg (hne _ (by omega)), blk_grown q4 hg (hne _ (by omega))⟩
  case ownx =>
    intro c s A B r ⟨q0, x, q1, q2, q3, q4, q5⟩ hg hk
    have hne : ∀ k, k < w1.heap.size → some k ≠ r := fun k hk1 e => by have := (hk k e.symm).1; omega
    exact ⟨q0, x, q1, hI.out _ _ r q2 (fun k e => by have := (hk k e).1; omega) hg, (q3.andThen hg (fun j e => .inl (by have := (hk j e).1; omega))), blk_grown q4 hg (hne _ (by omega)), blk_grown q5 hg (hne _ (by omega))⟩
  case ii => exact fun s A hA => hA.2.1
  case ig =>
    intro s A B ⟨q0, q1, q2, q3, q4⟩ hg hi
    exact ⟨q0, hi, q2.trans hg, blk_grown q3 hg (fun e => by have := hrw.out _ e.symm; omega), blk_grown q4 hg (fun e => by have := hrw.out _ e.symm; omega)⟩
  case ax =>
    intro x a' _ A B r ⟨b, q1, q2⟩ hg hk
    refine ⟨b, blk_grown q1 hg (fun e => ?_), q2⟩
    obtain ⟨_, o, ho, hc⟩ := hk b e.symm
    rw [show A.heap[b]? = _ from q1] at ho; cases ho; cases hc
  case assign =>
    rintro l pre x W K ⟨p0, p1, p2, p3, p4⟩ hK
    have hd : Below W.heap.size W (W.alloc (.cells (hC x) 60)) := b1 _ _
    have hbx := Lib.hid (Blk.new W 60 (hC x))
    have hi2 : Hid (InvG Inv mf mc wf wc h W0.heap.size (W0.heap.size + 1) (W.alloc (.cells (hC x) 60))) := Lib.hid ⟨hI.out _ _ none p1.1 (fun k e => by cases e) (grown_below hd none), p1.2.1.alloc _, p1.2.2.alloc _⟩
    have hd := Lib.hid hd
    have hs3 := Lib.hid (p3.alloc (.cells (hC x) 60))
    have hs4 := Lib.hid (p4.alloc (.cells (hC x) 60))
    have hp2 := Lib.hid (p2.trans (grown_below hd.out row))
    replace p0 := Lib.hid p0
    clear p1 p2 p3 p4
    gi_wp2
    exact hK _ _ (keepsFrom_of hd.out) (KpH.of hd.out) ⟨p0.out, hi2.out, hp2.out, hs3.out, hs4.out⟩ ⟨_, hbx.out, rfl⟩
  case body =>
    rintro l pre x a' W hl ⟨r, hlr⟩ ⟨p0, p1, p2, p3, p4⟩ ⟨b, hb, rfl⟩ hlt
    obtain ⟨c0, c1, c2, c3, c4, c5, c6⟩ := hb.c7
    obtain ⟨d0, d1, d2, d3, d4, d5, d6⟩ := p3.c7
    have d7 := p4.c 0 rfl
    have f3 := p3.fr
    have f4 := p4.fr 0
    have P1 := Lib.hid p1
    have P2 := Lib.hid p2
    have P3 := Lib.hid p3
    have P4 := Lib.hid p4
    have P0 := Lib.hid p0
    clear p0 p1 p2 p3 p4 hb
    gi_wp2
    obtain ⟨q1, q2, q3, q4, q5⟩ := put_out (base := w1.heap.size) (x := x) (b' := true) hI.out (hz.out _ h0w.out) (by omega) P1.out.1 P2.out P3.out P4.out
    exact ⟨q1, rfl, x, by rw [P0.out]; rfl, q2, q3, q4, q5⟩
  case done =>
    rintro D zs W hD hS ⟨p0, p1, p2, p3, p4⟩ hK
    obtain ⟨d0, d1, d2, d3, d4, d5, d6⟩ := p3.c7
    have d7 := p4.c 0 rfl
    have f3 := p3.fr
    have f4 := p4.fr 0
    have P1 := Lib.hid p1
    have P2 := Lib.hid p2
    have P3 := Lib.hid p3
    have P4 := Lib.hid p4
    have P0 := Lib.hid p0
    have hS := Lib.hid hS
    have hK := Lib.hid hK
    clear p0 p1 p2 p3 p4
    have fin : ∀ V, KeepsFrom w1.heap.size W V → Inv V → w.grownBy V row → Blk V (w.heap.size + 1 + 1) 60 (hC h0) → Blk V (w.heap.size + 1 + 1 + 1) 4 #[.bool false] →
        ∃ X, (Instr.takeDeferred D).run Try.prog V = .ok [] X ∧ Blk X (w.heap.size + 1 + 1) 60 (hC h0) ∧ Blk X (w.heap.size + 1 + 1 + 1) 4 #[.bool false] ∧ BestR row Inv o w (.returned (.tuple #[hV h0, .bool false])) X := fun V v1 v2 v3 v4 v5 => by
      have hK2 := v1.same _ _ hD hK.out rfl
      have g := grownBy_putObj' V D (.deferred none)
      have e : o = none := by have h1 := P0.out; rw [hS.out] at h1; rw [← ho.out, h1]; rfl
      subst e
      exact ⟨_, run_takeDeferred hK2, blk_grown v4 g (fun e => by cases e; omega), blk_grown v5 g (fun e => by cases e; omega), rfl, v3.andThen g (fun j e => .inl (by cases e; omega)), hI.out _ _ _ v2 (fun k e => by cases e; omega) g⟩
    replace fin := Lib.hid fin
    gi_wp2
    obtain ⟨q1, q2, q3, q4, q5⟩ := put_out (base := w1.heap.size) (x := h0) (b' := false) hI.out (hz.out _ h0w.out) (by omega) P1.out.1 P2.out P3.out P4.out
    obtain ⟨X, x1, x2, x3, x4⟩ := fin.out _ q1 q2 q3 q4 q5
    exact ⟨by simp, .inl ⟨_, _, rfl, x1, _, best_results x2 x3 rfl rfl, x4⟩⟩
  case stop =>
    rintro D c pre W hD hS ⟨rfl, x, rfl, p1, p2, p3, p4⟩ hK
    have g := grownBy_putObj' W D (.deferred none)
    have e : o = some x := by
      rw [← ho.out]
      obtain ⟨t, ht⟩ := hS
      rw [← ht]; rfl
    subst e
    have fin : (∃ X, (Instr.takeDeferred D).run Try.prog W = .ok [] X ∧ Blk X (w.heap.size + 1 + 1) 60 (hC x) ∧ Blk X (w.heap.size + 1 + 1 + 1) 4 #[.bool true] ∧ BestR row Inv (some x) w (.returned (.tuple #[hV x, .bool true])) X) :=
      ⟨_, run_takeDeferred hK, blk_grown p3 g (fun e => by cases e; omega), blk_grown p4 g (fun e => by cases e; omega), rfl, p2.andThen g (fun j e => .inl (by cases e; omega)), hI.out _ _ _ p1 (fun k e => by cases e; omega) g⟩
    replace fin := Lib.hid fin
    clear p1 p2 p3 p4 hK g
    gi_wp2
    obtain ⟨X, x1, x2, x3, x4⟩ := fin.out
    exact ⟨by simp, .inl ⟨_, _, rfl, x1, _, best_results x2 x3 rfl rfl, x4⟩⟩
end Go.Proofs.Ytdafpjapepfniaa
