/- Layer 4, by the program: the spots that guard. -/
import Derived.Test.YtbdhceolchhnjaaDoorGa
import Derived.Test.YtbdhceolchhnjaaDoorRa
namespace Go.Proofs.YtbdhceolchhnjaaDoor
open Go Go.RowKit

theorem KM.grown {m : Nat} {R : List Int} {B g : Nat} {w w' : World} (h : KM m R B w) (hb : w.grownBy w' (some g)) (hne : g ≠ B) : KM m R B w' := by
  obtain ⟨D, h1, h2, h3⟩ := h
  have hlt := h1.lt
  obtain ⟨es, clock, hh, F, hs, e⟩ := h1
  exact ⟨D, ⟨es, clock, (hb.block B hlt (by simp; omega)).trans hh, F, hs, e⟩, h2, h3⟩
theorem Keep.more {B g : Nat} {w0 w w' : World} (h : Keep B w0 w) (hb : w.grownBy w' (some g)) (hg : w0.heap.size ≤ g) : Keep B w0 w' :=
  ⟨hb.os.trans h.os, hb.tape.trans h.tape, hb.output.trans h.output, Nat.le_trans h.size hb.size, fun k hk hne => (hb.block k (Nat.lt_of_lt_of_le hk h.size) (by simp; omega)).trans (h.block k hk hne)⟩
theorem own_keep {B base g n cap : Nat} {w w' : World} {X : List Value} (h : rowG w base g n cap X) (hk : Keep B w w') (hne : g ≠ B) : rowG w' base g n cap X := by
  refine ⟨h.1, ?_⟩
  rcases h.2 with ⟨h', h2⟩ | ⟨g', cap', cur, h', hb, hg, hnc, hcm, hcs, htake⟩
  · exact .inl ⟨h', h2⟩
  · simp only [Value.slice.injEq, Option.some.injEq, Addr.mk.injEq, and_true, true_and] at h'
    obtain ⟨rfl, rfl⟩ := h'
    have hlt := (Array.getElem?_eq_some_iff.1 hg).1
    exact .inr ⟨g, cap, cur, rfl, hb, (hk.block g hlt hne).trans hg, hnc, hcm, hcs, htake⟩
theorem own_base {base g n cap : Nat} {w : World} {X : List Value} (h : rowG w base g n cap X) : base ≤ g := by
  rcases h.2 with ⟨h', _⟩ | ⟨g', cap', cur, h', hb, hg, hnc, hcm, hcs, htake⟩
  · simp at h'
  · simp only [Value.slice.injEq, Option.some.injEq, Addr.mk.injEq, and_true, true_and] at h'
    obtain ⟨rfl, rfl⟩ := h'
    exact hb
theorem guardsF_any (m : Nat) (a : Option Addr) (n c : Nat) (R : List Int) (B x y s i g t : Nat) (w : World) (hk : KM m R B w) (hg : Blk w g 70 #[.int .i64 (m : Nat), .slice a n c, .map (some B)]) (ht : Blk w t 65 #[.int .i64 (x : Nat), .int .i64 (y : Nat), .int .i64 (s : Nat)])
    (W : Calls Tryd.prog 77 #[gV m a n c B, tV x y s, .int .i64 (i : Nat)] w (RetK m R B (.bool (wB m R x y s i)) w)) :
    Calls Tryd.prog 83 #[.int .i64 (i : Nat), .pointer (some ⟨g, 0, none⟩), .pointer (some ⟨t, 0, none⟩)] w (RetK m R B (.bool (!wB m R x y s i)) w) := by
  obtain ⟨x0, x1, x2⟩ := hg.c3
  obtain ⟨y0, y1, y2⟩ := ht.c3
  clear hg ht
  generalize wB m R x y s i = r at *
  replace W := Lib.hid W
  replace hk := Lib.hid hk
  go_enter Tryd.func83, Tryd.ntmps83
  go_wp2_with (go_at_call 77; refine W.out.mono ?_; rintro e w1 ⟨rfl, hk1, hm1⟩)
  go_ret
  exact ⟨rfl, hk1, hm1⟩
/-- The spots that guard. -/
def gdL (m : Nat) (R : List Int) : List Nat := (frL m 0 0).filter (wB m R 0 0 1)
/-- A list of spots was returned. -/
def GdR (m : Nat) (R : List Int) (B : Nat) (w : World) (e : Ending) (w' : World) : Prop := ∃ g cap, e = .returned (.slice (some ⟨g, 0, none⟩) (gdL m R).length cap) ∧ g ≠ B ∧ (∀ t, t < (gdL m R).length → w'.cell? ⟨g, 0 + t, none⟩ = some (.int .i64 (((gdL m R).getD t 0 : Nat) : Int))) ∧ Keep B w w' ∧ KM m R B w'
set_option maxRecDepth 100000 in
set_option maxHeartbeats 2000000 in
theorem guards_any (m : Nat) (a : Option Addr) (n c : Nat) (R : List Int) (B : Nat) (w0 w : World) (hF : FieldP m R) (hn : R.length = n) (hst : StG m a R B w0 w) :
    Calls Tryd.prog 59 #[gV m a n c B] w (GdR m R B w) := by
  have hlt := hst.km.lt
  have hA := (Blk.new w 70 #[.int .i64 (m : Nat), .slice a n c, .map (some B)]).alloc (.cells #[.int .i64 0, .int .i64 0, .int .i64 1] 65)
  have hT : Blk ((w.alloc (.cells #[.int .i64 (m : Nat), .slice a n c, .map (some B)] 70)).alloc (.cells #[.int .i64 0, .int .i64 0, .int .i64 1] 65)) (w.heap.size + 1) 65 #[.int .i64 0, .int .i64 0, .int .i64 1] := by
    have := Blk.new (w.alloc (.cells #[.int .i64 (m : Nat), .slice a n c, .map (some B)] 70)) 65 #[.int .i64 0, .int .i64 0, .int .i64 1]
    simpa using this
  have hb := b2 w (.cells #[.int .i64 (m : Nat), .slice a n c, .map (some B)] 70) (.cells #[.int .i64 0, .int .i64 0, .int .i64 1] 65)
  have F := Lib.hid (fun W hW => (show Calls Tryd.prog 47 #[fV m a n c, .agg #[.int .i64 0, .int .i64 0]] W (NewI (lNi (frL m 0 0)) W) from freeSpots_any m a n c 0 0 W hF.le (by omega) (by omega) hW))
  have hp : PosP m 0 0 := ⟨pw_pos m, pw_pos m, fun i h => by simp at h⟩
  have hl0 : frL m 0 0 ≠ [] := by
    intro h
    have : (0 : Nat) ∈ frL m 0 0 := frL_mem.2 ⟨hF.pos, by simp, by simp⟩
    rw [h] at this; cases this
  have hl9 : (frL m 0 0).length ≤ 9 := Nat.le_trans (frL_len m 0 0) hF.le
  have hst1 := hst.next hb
  obtain ⟨P, hP⟩ : ∃ P, Hid ((w.alloc (.cells #[.int .i64 (m : Nat), .slice a n c, .map (some B)] 70)).alloc (.cells #[.int .i64 0, .int .i64 0, .int .i64 1] 65) = P) := ⟨_, Lib.hid rfl⟩
  rw [hP.out] at hA hT hb hst1
  have hBP : B < P.heap.size := hst1.km.lt
  have DL := Lib.hid (fun w2 g cap (hb2 : Below P.heap.size P w2) (hown : rowG w2 P.heap.size g (frL m 0 0).length cap (lI (lNi (frL m 0 0)))) (hne : g ≠ B) =>
    deleteF_any 83 #[.pointer (some ⟨w.heap.size, 0, none⟩), .pointer (some ⟨w.heap.size + 1, 0, none⟩)] (fun W => Keep B P W ∧ KM m R B W) (wB m R 0 0 1) (frL m 0 0) P.heap.size g (frL m 0 0).length cap w2 ⟨Keep.of hb2, hst1.km.next hb2⟩ hown rfl (by omega)
      (fun args W => by go_simp) (fun W W' hI hg => ⟨hI.1.more hg (own_base hown), hI.2.grown hg hne⟩) (fun W hI i hi =>
        (guardsF_any m a n c R B 0 0 1 i w.heap.size (w.heap.size + 1) W hI.2 (hI.1.blk (by omega) hA) (hI.1.blk (by omega) hT) (winsAll_any m a n c R B w0 hF hn (hst1.step hI.1 hI.2) hp (by omega) hi)).mono fun e w' h => ⟨h.1, ⟨hI.1.trans h.2.1, h.2.2⟩, fun X hX => own_keep hX h.2.1 hne⟩))
  have hTb := hst1.tab.next hst1.below
  replace hst := Lib.hid hst
  replace hst1 := Lib.hid hst1
  replace hF := Lib.hid hF
  replace hb := Lib.hid hb
  replace hTb := Lib.hid hTb
  replace hp := Lib.hid hp
  obtain ⟨x0, x1, x2⟩ := hA.c3
  obtain ⟨y0, y1, y2⟩ := hT.c3
  rw [← hP.out] at x0 x1 x2 y0 y1 y2
  clear hA hT hn
  go_enter Tryd.func59, Tryd.ntmps59
  go_wp2_with fail
  rw [hP.out]
  refine (F.out _ hTb.out).mono ?_
  rintro e w2 ⟨v, rfl, hown, hb2⟩
  obtain ⟨g, cap, rfl⟩ := own_pos hown (by rw [lNi_len]; exact List.length_pos_iff.2 hl0)
  rw [lNi_len] at hown
  have hne : g ≠ B := by have := own_base hown; omega
  have D1 := Lib.hid (DL.out w2 g cap hb2 hown hne)
  replace hown := Lib.hid hown
  clear x0 x1 x2 y0 y1 y2
  have hgd : Hid ((frL m 0 0).filter (wB m R 0 0 1) = gdL m R) := Lib.hid rfl
  have hll := lNi_len (frL m 0 0)
  rw [hgd.out] at D1
  generalize (frL m 0 0).length = k0 at *
  go_wp2_with (go_at_call 82; refine D1.out.mono ?_; rintro e w3 ⟨k, rfl, hkk, hkn, hI3, X, hrow, hX⟩; replace hI3 := Lib.hid hI3; replace hrow := Lib.hid hrow; replace hX := Lib.hid hX; replace hkk := Lib.hid hkk)
  go_ret
  refine ⟨g, cap, by rw [← hkk.out]; rfl, hne, fun t ht => ?_, (Keep.of hb.out).trans hI3.out.1, hI3.out.2⟩
  rw [← hkk.out] at ht
  rw [Nat.zero_add, hrow.out.cellAt t (by omega)]
  exact hX.out t ht
end Go.Proofs.YtbdhceolchhnjaaDoor
