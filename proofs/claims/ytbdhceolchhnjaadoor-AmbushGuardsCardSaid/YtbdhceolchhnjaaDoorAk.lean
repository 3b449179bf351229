/- Layer 4, by the program: the first spot by which the next one wins. -/
import Derived.Test.YtbdhceolchhnjaaDoorAj
namespace Go.Proofs.YtbdhceolchhnjaaDoor
open Go Go.RowKit

/-- The numbers lie outside of block B. -/
def IntsK (B : Nat) (w : World) (a : Option Addr) (L : List Int) : Prop :=
  L.length = 0 ∨ ∃ b off, a = some ⟨b, off, none⟩ ∧ b ≠ B ∧ ∀ i, i < L.length → w.cell? ⟨b, off + i, none⟩ = some (.int .i64 (nth L i))
theorem IntsK.keep {B : Nat} {w w' : World} {a : Option Addr} {L : List Int} (h : IntsK B w a L) (hk : Keep B w w') : IntsK B w' a L := by
  rcases h with h | ⟨b, off, e, hb, hc⟩
  · exact .inl h
  · exact .inr ⟨b, off, e, hb, fun i hi => hk.cell (p := ⟨b, off + i, none⟩) hb (hc i hi)⟩
theorem IntsK.of_own {B base : Nat} {w : World} {v : Value} {L : List Int} {e : TypeId} (h : w.ownsRow base e 1 v L.length (lI L)) (hB : B < base) : ∃ a c, v = .slice a L.length c ∧ L.length ≤ c ∧ IntsK B w a L := by
  have h0 := h
  rcases h.2 with ⟨rfl, h2⟩ | ⟨g, cap, cur, rfl, hg, hh, hcap, r⟩
  · exact ⟨none, 0, by rw [h2], by omega, .inl h2⟩
  · exact ⟨some ⟨g, 0, none⟩, cap, rfl, hcap, .inr ⟨g, 0, rfl, by omega, fun i hi => (own_ints h0).2 i hi⟩⟩
/-- The first of which p says yes, or else the first one. -/
def mvL (l : List Nat) (p : Nat → Bool) : Nat := (l.find? p).getD (l.headD 0)
theorem lNi_nth {l : List Nat} {i : Nat} (h : i < l.length) : nth (lNi l) i = ((l.getD i 0 : Nat) : Int) := by simp [lNi, nth, h]
theorem mv_first {l : List Nat} {p : Nat → Bool} {r : Int} (h : FirstI (fun j => p (l.getD j 0)) l.length r) (hl : 0 < l.length) : ∃ k : Nat, k < l.length ∧ max 0 r = (k : Int) ∧ l.getD k 0 = mvL l p ∧ (r = -1 ∧ k = 0 ∨ r = (k : Int)) := by
  unfold mvL
  rcases h with ⟨rfl, h⟩ | ⟨i, rfl, h1, h2, h3⟩
  · refine ⟨0, hl, rfl, ?_, .inl ⟨rfl, rfl⟩⟩
    have : l.find? p = none := List.find?_eq_none.2 fun x hx => by
      obtain ⟨j, hj, rfl⟩ := List.mem_iff_getElem.1 hx
      have := h j hj
      simp [hj] at this
      simp [this]
    rw [this]
    cases l with
    | nil => simp at hl
    | cons a l => rfl
  · refine ⟨i, h1, by omega, ?_, .inr rfl⟩
    have : l.find? p = some (l.getD i 0) := by
      rw [List.find?_eq_some_iff_getElem]
      refine ⟨h2, i, h1, by simp [h1], fun j hj => ?_⟩
      have := h3 j hj
      simp [show j < l.length by omega] at this
      simp [this]
    rw [this]; rfl
set_option maxRecDepth 100000 in
theorem moveF_any (m : Nat) (a : Option Addr) (n c : Nat) (R : List Int) (B x y s i g t : Nat) (w : World) (hk : KM m R B w) (hg : Blk w g 70 #[.int .i64 (m : Nat), .slice a n c, .map (some B)]) (ht : Blk w t 65 #[.int .i64 (x : Nat), .int .i64 (y : Nat), .int .i64 (s : Nat)])
    (W : Calls Tryd.prog 77 #[gV m a n c B, tV x y s, .int .i64 (i : Nat)] w (RetK m R B (.bool (wB m R x y s i)) w)) :
    Calls Tryd.prog 76 #[.int .i64 (i : Nat), .pointer (some ⟨g, 0, none⟩), .pointer (some ⟨t, 0, none⟩)] w (RetK m R B (.bool (wB m R x y s i)) w) := by
  obtain ⟨x0, x1, x2⟩ := hg.c3
  obtain ⟨y0, y1, y2⟩ := ht.c3
  clear hg ht
  generalize wB m R x y s i = r at *
  replace W := Lib.hid W
  replace hk := Lib.hid hk
  go_enter Tryd.func76, Tryd.ntmps76
  go_wp2_with (go_at_call 77; refine W.out.mono ?_; rintro e w1 ⟨rfl, hk1, hm1⟩)
  go_ret
  exact ⟨rfl, hk1, hm1⟩
set_option maxRecDepth 100000 in
set_option maxHeartbeats 1000000 in
theorem moveA_any (m : Nat) (a : Option Addr) (n c : Nat) (R : List Int) (B x y s k cap : Nat) (sa : Option Addr) (l : List Nat) (w : World) (hk : KM m R B w) (hl : l.length = k) (h9 : k ≤ 9) (h0 : 0 < k) (hS : IntsK B w sa (lNi l))
    (W : ∀ i ∈ l, ∀ w', Keep B w w' → KM m R B w' → Calls Tryd.prog 77 #[gV m a n c B, tV x y s, .int .i64 (i : Nat)] w' (RetK m R B (.bool (wB m R x y s i)) w')) :
    Calls Tryd.prog 49 #[gV m a n c B, tV x y s, .slice sa k cap] w (RetK m R B (.int .i64 (mvL l (wB m R x y s) : Nat)) w) := by
  have hlt := hk.lt
  have hA := (Blk.new w 70 #[.int .i64 (m : Nat), .slice a n c, .map (some B)]).alloc (.cells #[.int .i64 (x : Nat), .int .i64 (y : Nat), .int .i64 (s : Nat)] 65)
  have hT : Blk ((w.alloc (.cells #[.int .i64 (m : Nat), .slice a n c, .map (some B)] 70)).alloc (.cells #[.int .i64 (x : Nat), .int .i64 (y : Nat), .int .i64 (s : Nat)] 65)) (w.heap.size + 1) 65 #[.int .i64 (x : Nat), .int .i64 (y : Nat), .int .i64 (s : Nat)] := by
    have := Blk.new (w.alloc (.cells #[.int .i64 (m : Nat), .slice a n c, .map (some B)] 70)) 65 #[.int .i64 (x : Nat), .int .i64 (y : Nat), .int .i64 (s : Nat)]
    simpa using this
  have hb := b2 w (.cells #[.int .i64 (m : Nat), .slice a n c, .map (some B)] 70) (.cells #[.int .i64 (x : Nat), .int .i64 (y : Nat), .int .i64 (s : Nat)] 65)
  obtain ⟨w1, hw1⟩ : ∃ w1, w1 = (w.alloc (.cells #[.int .i64 (m : Nat), .slice a n c, .map (some B)] 70)).alloc (.cells #[.int .i64 (x : Nat), .int .i64 (y : Nat), .int .i64 (s : Nat)] 65) := ⟨_, rfl⟩
  rw [← hw1] at hA hT hb
  have hS1 := hS.keep (Keep.of hb)
  have hk1 := hk.next hb
  have K := indexF_any 76 #[.pointer (some ⟨w.heap.size, 0, none⟩), .pointer (some ⟨w.heap.size + 1, 0, none⟩)] (fun w' => Keep B w1 w' ∧ KM m R B w') (fun j => wB m R x y s (l.getD j 0)) (fun j => .int .i64 (nth (lNi l) j)) sa k cap w1 ⟨Keep.refl _ _, hk1⟩
    (fun args W => by go_simp) (by omega) (fun h => by
      rcases hS1 with h | ⟨b, off, e, hbB, hc⟩
      · rw [lNi_len] at h; omega
      · exact ⟨b, off, e, fun w' hw' i hi => hw'.1.cell (p := ⟨b, off + i, none⟩) hbB (hc i (by rw [lNi_len]; omega))⟩) (fun w' hw' j hj _ => by
      have hjl : j < l.length := by omega
      have hmem : l.getD j 0 ∈ l := by simp [hjl]
      rw [lNi_nth hjl]
      have := moveF_any m a n c R B x y s (l.getD j 0) w.heap.size (w.heap.size + 1) w' hw'.2 (hw'.1.blk (by omega) hA) (hw'.1.blk (by omega) hT) (W _ hmem w' ((Keep.of hb).trans hw'.1) hw'.2)
      exact this.mono fun e w'' h => ⟨h.1, hw'.1.trans h.2.1, h.2.2⟩)
  clear W hA hT hk1
  subst hw1
  replace K := Lib.hid K
  replace hb := Lib.hid hb
  replace hk := Lib.hid hk
  have hSb : ∃ b off, sa = some ⟨b, off, none⟩ ∧ b ≠ B ∧ ∀ i, i < k → ((w.alloc (.cells #[.int .i64 (m : Nat), .slice a n c, .map (some B)] 70)).alloc (.cells #[.int .i64 (x : Nat), .int .i64 (y : Nat), .int .i64 (s : Nat)] 65)).cell? ⟨b, off + i, none⟩ = some (.int .i64 ((l.getD i 0 : Nat) : Int)) := by
    rcases hS1 with h | ⟨b, off, e, hbB, hc⟩
    · rw [lNi_len] at h; omega
    · refine ⟨b, off, e, hbB, fun i hi => ?_⟩
      have := hc i (by rw [lNi_len]; omega)
      rwa [lNi_nth (by omega)] at this
  obtain ⟨b, off, rfl, hbB, hcc⟩ := hSb
  clear hS hS1
  have hmv := Lib.hid (fun r (h : FirstI (fun j => wB m R x y s (l.getD j 0)) k r) => mv_first (p := wB m R x y s) (by rw [hl]; exact h) (by omega))
  have fin : ∀ w2, Keep B ((w.alloc (.cells #[.int .i64 (m : Nat), .slice a n c, .map (some B)] 70)).alloc (.cells #[.int .i64 (x : Nat), .int .i64 (y : Nat), .int .i64 (s : Nat)] 65)) w2 → ∀ j, j < k → w2.cell? ⟨b, off + j, none⟩ = some (.int .i64 ((l.getD j 0 : Nat) : Int)) :=
    fun w2 h2 j hj => h2.cell (p := ⟨b, off + j, none⟩) hbB (hcc j hj)
  replace fin := Lib.hid fin
  clear hcc
  replace hl := Lib.hid hl
  obtain ⟨P, hP⟩ : ∃ P, Hid ((w.alloc (.cells #[.int .i64 (m : Nat), .slice a n c, .map (some B)] 70)).alloc (.cells #[.int .i64 (x : Nat), .int .i64 (y : Nat), .int .i64 (s : Nat)] 65) = P) := ⟨_, Lib.hid rfl⟩
  rw [hP.out] at K hb fin
  have K2 : Hid (Calls Tryd.prog 75 #[.slice (some ⟨b, off, none⟩) k cap, .func (.func 76) #[] #[.pointer (some ⟨w.heap.size, 0, none⟩), .pointer (some ⟨w.heap.size + 1, 0, none⟩)]] P fun e w' =>
      ∃ r, e = .returned (.int .i64 r) ∧ ∃ j : Nat, j < k ∧ (r = -1 ∧ j = 0 ∨ r = 0 ∧ j = 0 ∨ r = (j : Int) ∧ 0 < j) ∧ l.getD j 0 = mvL l (wB m R x y s) ∧ Keep B P w' ∧ KM m R B w') := Lib.hid (K.out.mono fun e w' ⟨r, he, hr, hk', hm'⟩ => by
    obtain ⟨j, hj, _, hv, hrr⟩ := hmv.out r hr
    refine ⟨r, he, j, by have := hl.out; omega, ?_, hv, hk', hm'⟩
    rcases hrr with h | h
    · exact .inl h
    · rcases Nat.eq_zero_or_pos j with h2 | h2
      · exact .inr (.inl ⟨by omega, h2⟩)
      · exact .inr (.inr ⟨h, h2⟩))
  rw [← hP.out] at K2
  clear K hmv
  generalize mvL l (wB m R x y s) = v at *
  go_enter Tryd.func49, Tryd.ntmps49
  go_wp2_with (go_at_call 75; refine K2.out.mono ?_; rintro e w2 ⟨r, rfl, j, hj, hrr, hv, hk2, hm2⟩; rw [hP.out] at hk2; have xc := fin.out w2 hk2 j hj; rw [hv] at xc; clear hv; replace hk2 := Lib.hid hk2; replace hm2 := Lib.hid hm2; rcases hrr with ⟨rfl, rfl⟩ | ⟨rfl, rfl⟩ | ⟨rfl, hj0⟩; all_goals (try rw [Nat.add_zero] at xc))
  all_goals go_ret
  all_goals exact ⟨rfl, (Keep.of hb.out).trans hk2.out, hm2.out⟩
end Go.Proofs.YtbdhceolchhnjaaDoor
