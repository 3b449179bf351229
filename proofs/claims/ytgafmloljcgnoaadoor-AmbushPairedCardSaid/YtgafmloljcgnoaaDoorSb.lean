/- Layer 4, by the program: Careful. -/
import Derived.Test.YtgafmloljcgnoaaDoorSa
import Derived.Test.YtgafmloljcgnoaaDoorAk
namespace Go.Proofs.YtgafmloljcgnoaaDoor
open Go Go.RowKit

set_option maxRecDepth 100000 in
set_option maxHeartbeats 1000000 in
theorem careA_any (m : Nat) (a : Option Addr) (n c : Nat) (R : List Int) (x y k cap : Nat) (sa : Option Addr) (l : List Nat) (w : World) (h : Ints w a R) (hn : R.length = n) (hF : FieldP m R) (hx : x < 512) (hy : y < 512) (hl : l.length = k) (h9 : k ≤ 9) (h0 : 0 < k) (hl9 : ∀ i ∈ l, i < 9) (hS : Ints w sa (lNi l)) :
    Calls Tryd.prog 63 #[fV m a n c, pV x y, .slice sa k cap] w (Ret (.int .i64 (mnL (dgT m R x y) l : Nat)) w) := by
  have hA := (Blk.new w 65 #[.int .i64 (m : Nat), .slice a n c]).alloc (.cells #[.int .i64 (x : Nat), .int .i64 (y : Nat)] 67)
  have hT : Blk ((w.alloc (.cells #[.int .i64 (m : Nat), .slice a n c] 65)).alloc (.cells #[.int .i64 (x : Nat), .int .i64 (y : Nat)] 67)) (w.heap.size + 1) 67 #[.int .i64 (x : Nat), .int .i64 (y : Nat)] := by
    have := Blk.new (w.alloc (.cells #[.int .i64 (m : Nat), .slice a n c] 65)) 67 #[.int .i64 (x : Nat), .int .i64 (y : Nat)]
    simpa using this
  have hb := b2 w (.cells #[.int .i64 (m : Nat), .slice a n c] 65) (.cells #[.int .i64 (x : Nat), .int .i64 (y : Nat)] 67)
  obtain ⟨b, off, rfl, hcc⟩ : ∃ b off, sa = some ⟨b, off, none⟩ ∧ ∀ i, i < k → w.cell? ⟨b, off + i, none⟩ = some (.int .i64 ((l.getD i 0 : Nat) : Int)) := by
    obtain ⟨b, off, e, hc⟩ := ints_at hS (by rw [lNi_len]; omega)
    refine ⟨b, off, e, fun i hi => ?_⟩
    have := hc i (by rw [lNi_len]; omega)
    rwa [lNi_nth (by omega)] at this
  obtain ⟨P, hP⟩ : ∃ P, Hid ((w.alloc (.cells #[.int .i64 (m : Nat), .slice a n c] 65)).alloc (.cells #[.int .i64 (x : Nat), .int .i64 (y : Nat)] 67) = P) := ⟨_, Lib.hid rfl⟩
  rw [hP.out] at hA hT hb
  have hle : ∀ v, dngL m R x v ≤ 6144 := fun v => by
    have := dng_le hF.le x v R
    have := hF.few
    omega
  have K := minF_any 93 #[.pointer (some ⟨w.heap.size, 0, none⟩), .pointer (some ⟨w.heap.size + 1, 0, none⟩)] (fun w' => Below P.heap.size P w') (dgT m R x y) l b off k cap P (Below.refl _ _) hl h0 (by omega) (fun i => by have := hle (y ||| pw i); unfold dgT; omega)
    (fun args W => by go_simp) (fun W hW i hi => cellB hW (cellB hb (hcc i hi))) (fun W hW i hi j hj =>
      (careF_any m a n c R x y i j w.heap.size (w.heap.size + 1) W ((h.next hb).next hW) hn hF hx hy (hl9 i hi) (hl9 j hj) (hA.ext hW) (hT.ext hW)).mono fun e w' h => ⟨h.1, nextB hW h.2⟩)
  replace K := Lib.hid K
  rw [← hP.out] at K hb
  clear hA hT hcc hP hle hS h
  replace hb := Lib.hid hb
  replace hF := Lib.hid hF
  generalize mnL (dgT m R x y) l = r at *
  go_enter Tryd.func63, Tryd.ntmps63
  go_wp2_with (go_at_call 92; refine K.out.mono ?_; rintro e w2 ⟨rfl, hb2⟩)
  go_ret
  exact Ret.mk rfl (nextB hb.out hb2)
/-- Careful's error. -/
def caE (x : Int) (R : List Int) (s : ByteArray) : Nat := if pE x R s = 0 then (if frL x.toNat (psB s 119 x.toNat) (psB s 100 x.toNat) = [] then 9 else 0) else pE x R s
/-- Careful's spot. -/
def caI (x : Int) (R : List Int) (s : ByteArray) : Nat := if caE x R s = 0 then mnL (dgT x.toNat R (psB s 119 x.toNat) (psB s 100 x.toNat)) (frL x.toNat (psB s 119 x.toNat) (psB s 100 x.toNat)) else 0
set_option maxRecDepth 100000 in
set_option maxHeartbeats 4000000 in
theorem Careful_any (x : Int) (a : Option Addr) (n c : Nat) (R : List Int) (s : ByteArray) (w : World) (h : Ints w a R) (hn : R.length = n) (hT : Tab w) :
    Calls Tryd.prog 24 #[.int .i64 x, .slice a n c, .string s] w (Ret (.tuple #[.int .i64 (caI x R s : Nat), .int .i64 (caE x R s : Nat)]) w) := by
  have F := Lib.hid (fun W hW => fieldAt_any x a n c R s W hW hn)
  have hI := Lib.hid h
  have hTab := Lib.hid hT
  have hn' := Lib.hid hn
  clear h hT hn
  obtain ⟨e, he⟩ : ∃ e, Hid (pE x R s = e) := ⟨_, Lib.hid rfl⟩
  obtain ⟨r, hr⟩ : ∃ r, Hid (caI x R s = r) := ⟨_, Lib.hid rfl⟩
  obtain ⟨q, hq⟩ : ∃ q, Hid (caE x R s = q) := ⟨_, Lib.hid rfl⟩
  have he6 : e < 6 := by rw [← he.out]; exact pE_lt x R s
  rw [he.out] at F
  rw [hr.out, hq.out]
  by_cases h1 : e = 0
  · subst h1
    obtain ⟨hx, hF, hs, _⟩ := pE_ok he.out
    obtain ⟨m, hm⟩ : ∃ m, x.toNat = m := ⟨_, rfl⟩
    have hr2 := hr.out
    unfold caI at hr2
    rw [hq.out] at hr2
    have hq2 := hq.out
    unfold caE at hq2
    rw [he.out, if_pos rfl] at hq2
    simp only [if_true] at F
    rw [hm] at hx hF hr2 hq2 F hs
    subst hx
    have hp := psB_pos s m
    obtain ⟨hu9, hv9⟩ := hp.lt hF.le
    have FS := Lib.hid (fun W hW => freeSpots_any m a n c (psB s 119 m) (psB s 100 m) W hF.le (by omega) (by omega) hW)
    have CA := Lib.hid (fun cap sa W hW h0 hS => careA_any m a n c R (psB s 119 m) (psB s 100 m) (frL m (psB s 119 m) (psB s 100 m)).length cap sa (frL m (psB s 119 m) (psB s 100 m)) W hW hn'.out hF hu9 hv9 rfl (by have := frL_len m (psB s 119 m) (psB s 100 m); have := hF.le; omega) h0 (fun i hi => by have := (frL_mem.1 hi).1; have := hF.le; omega) hS)
    have hl9 := frL_len m (psB s 119 m) (psB s 100 m)
    have hm9 := hF.le
    generalize psB s 119 m = u at *
    generalize psB s 100 m = v at *
    generalize hl : frL m u v = l at *
    replace hl := Lib.hid hl
    replace hF := Lib.hid hF
    replace hp := Lib.hid hp
    have hll := lNi_len l
    clear hm hs hu9 hv9
    by_cases h0 : l = []
    · rw [if_pos h0] at hq2
      subst hq2
      rw [if_neg (by omega)] at hr2
      subst hr2
      rw [h0] at FS
      clear hl h0 hl9 hll CA
      go_enter Tryd.func24, Tryd.ntmps24
      go_wp2_with (first
        | (go_at_call 60; refine (F.out _ hI.out).mono ?_; rintro e w1 ⟨rfl, hb1⟩)
        | (go_at_call 56; refine (FS.out _ (hTab.out.next (nextB hb1 (b2 _ _ _)))).mono ?_; rintro e w2 ⟨v, rfl, hown, hb2⟩; obtain ⟨va, vc, rfl, hvc, hI2⟩ := own_intsA hown rfl; replace hown := Lib.hid hown; replace hI2 := Lib.hid hI2))
      go_ret2
      exact Ret.mk rfl (nextB (nextB hb1 (b2 _ _ _)) hb2)
    · have hlen0 : 0 < l.length := List.length_pos_iff.2 h0
      have hl0 : ((l.length : Int) == 0) = false := by rw [beq_eq_false_iff_ne]; omega
      rw [if_neg h0] at hq2
      subst hq2
      rw [if_pos rfl] at hr2
      generalize mnL (dgT m R u v) l = k at *
      subst hr2
      go_enter Tryd.func24, Tryd.ntmps24
      go_wp2_with (go_at_call 60; refine (F.out _ hI.out).mono ?_; rintro e w1 ⟨rfl, hb1⟩)
      have hG := (Blk.new w1 65 #[.int .i64 (m : Nat), .slice a n c]).alloc (.cells #[.int .i64 (u : Nat), .int .i64 (v : Nat)] 67)
      have hH : Blk ((w1.alloc (.cells #[.int .i64 (m : Nat), .slice a n c] 65)).alloc (.cells #[.int .i64 (u : Nat), .int .i64 (v : Nat)] 67)) (w1.heap.size + 1) 67 #[.int .i64 (u : Nat), .int .i64 (v : Nat)] := by
        have := Blk.new (w1.alloc (.cells #[.int .i64 (m : Nat), .slice a n c] 65)) 67 #[.int .i64 (u : Nat), .int .i64 (v : Nat)]
        simpa using this
      have bw := nextB hb1 (b2 w1 (.cells #[.int .i64 (m : Nat), .slice a n c] 65) (.cells #[.int .i64 (u : Nat), .int .i64 (v : Nat)] 67))
      generalize (w1.alloc (.cells #[.int .i64 (m : Nat), .slice a n c] 65)).alloc (.cells #[.int .i64 (u : Nat), .int .i64 (v : Nat)] 67) = w2 at *
      refine (FS.out _ (hTab.out.next bw)).mono ?_
      rintro e w3 ⟨v1, rfl, hown, hb2⟩
      obtain ⟨va, vc, rfl, hvc, hI2⟩ := own_intsA hown rfl
      rw [hll] at hvc
      replace hG := hG.ext hb2
      replace hH := hH.ext hb2
      replace bw := nextB bw hb2
      have f0 := hG.c 0 rfl
      have f1 := hG.c 1 rfl
      have y0 := hH.c 0 rfl
      have y1 := hH.c 1 rfl
      replace hown := Lib.hid hown
      replace hG := Lib.hid hG
      replace hH := Lib.hid hH
      replace hI2 := Lib.hid hI2
      go_wp2_with (go_at_call 63; refine (CA.out _ _ _ (hI.out.next bw) hlen0 hI2.out).mono ?_; rintro e w4 ⟨rfl, hb3⟩)
      go_ret2
      exact Ret.mk rfl (nextB bw hb3)
  · have hq2 : Hid (q = e) := Lib.hid (by rw [← hq.out]; unfold caE; rw [he.out, if_neg h1])
    have hr2 : Hid (r = 0) := Lib.hid (by rw [← hr.out]; unfold caI; rw [hq.out, hq2.out, if_neg h1])
    rw [hr2.out, hq2.out]
    rw [if_neg h1, if_neg h1] at F
    have d1 : ((e : Int) != 0) = true := by rw [bne_iff_ne]; omega
    go_enter Tryd.func24, Tryd.ntmps24
    go_wp2_with (go_at_call 60; refine (F.out _ hI.out).mono ?_; rintro e w1 ⟨rfl, hb1⟩)
    go_ret2
    exact Ret.mk rfl (nextB hb1 (b2 _ _ _))
end Go.Proofs.YtgafmloljcgnoaaDoor
