/- Layer 4, by the program: Move. -/
import Derived.Test.YtbdhceolchhnjaaDoorAs
namespace Go.Proofs.YtbdhceolchhnjaaDoor
open Go Go.RowKit

theorem lt_of_cellA {w : World} {a : Addr} {v : Value} (h : w.cell? a = some v) : a.block < w.heap.size := by
  apply Classical.byContradiction
  intro hn
  have h1 : w.heap[a.block]? = none := Array.getElem?_eq_none (by omega)
  simp [World.cell?, h1] at h
/-- A list that is older than block B. -/
theorem IntsK.of_own' {base : Nat} {w : World} {v : Value} {L : List Int} {e : TypeId} (h : w.ownsRow base e 1 v L.length (lI L))   : ∃ a c, v = .slice a L.length c ∧ L.length ≤ c ∧ ∀ B, w.heap.size ≤ B → IntsK B w a L := by
  have h0 := h
  rcases h.2 with ⟨rfl, h2⟩ | ⟨g, cap, cur, rfl, hg, hh, hcap, r⟩
  · exact ⟨none, 0, by rw [h2], by omega, fun _ _ => .inl h2⟩
  · refine ⟨some ⟨g, 0, none⟩, cap, rfl, hcap, fun B hB => ?_⟩
    by_cases hL : L.length = 0
    · exact .inl hL
    · refine .inr ⟨g, 0, rfl, ?_, fun i hi => (own_ints h0).2 i hi⟩
      have h1 := lt_of_cellA ((own_ints h0).2 0 (by omega))
      simp only at h1
      omega
/-- The move's error. -/
def mvE (x : Int) (R : List Int) (s t : ByteArray) : Nat := if tE x R s t = 0 then (if frL x.toNat (psB s 119 x.toNat) (psB s 100 x.toNat) = [] ∨ hasOne R (psB s 119 x.toNat) = true then 9 else 0) else tE x R s t
/-- The move. -/
def mvI (x : Int) (R : List Int) (s t : ByteArray) : Nat := if mvE x R s t = 0 then mvL (frL x.toNat (psB s 119 x.toNat) (psB s 100 x.toNat)) (wB x.toNat R (psB s 119 x.toNat) (psB s 100 x.toNat) (sideN t)) else 0
set_option maxRecDepth 100000 in
set_option maxHeartbeats 4000000 in
theorem Move_any (x : Int) (a : Option Addr) (n c : Nat) (R : List Int) (s t : ByteArray) (w : World) (h : Ints w a R) (hn : R.length = n) (hT : Tab w) :
    Calls Tryd.prog 14 #[.int .i64 x, .slice a n c, .string s, .string t] w (Ret (.tuple #[.int .i64 (mvI x R s t : Nat), .int .i64 (mvE x R s t : Nat)]) w) := by
  have F := Lib.hid (fun W hW => fieldOnTurn_any x a n c R s t W hW hn)
  have hI := Lib.hid h
  have hTab := Lib.hid hT
  have hn' := Lib.hid hn
  clear h hT hn
  obtain ⟨e, he⟩ : ∃ e, Hid (tE x R s t = e) := ⟨_, Lib.hid rfl⟩
  obtain ⟨r, hr⟩ : ∃ r, Hid (mvI x R s t = r) := ⟨_, Lib.hid rfl⟩
  obtain ⟨q, hq⟩ : ∃ q, Hid (mvE x R s t = q) := ⟨_, Lib.hid rfl⟩
  have he6 : e < 6 := by rw [← he.out]; exact tE_lt x R s t
  rw [he.out] at F
  rw [hr.out, hq.out]
  by_cases h1 : e = 0
  · subst h1
    obtain ⟨hx, hF, hs, _, _⟩ := tE_ok he.out
    obtain ⟨m, hm⟩ : ∃ m, x.toNat = m := ⟨_, rfl⟩
    have hr2 := hr.out
    unfold mvI at hr2
    rw [hq.out] at hr2
    have hq2 := hq.out
    unfold mvE at hq2
    rw [he.out, if_pos rfl] at hq2
    simp only [if_true] at F
    rw [hm] at hx hF hr2 hq2 F hs
    subst hx
    have hp := psB_pos s m
    have hsn := sideN_lt t
    obtain ⟨hu9, hv9⟩ := hp.lt hF.le
    have NG := Lib.hid (fun W => newGameA_any m a n c R W)
    have FS := Lib.hid (fun W hW => freeSpots_any m a n c (psB s 119 m) (psB s 100 m) W hF.le (by omega) (by omega) hW)
    have WO := Lib.hid (fun W hW => won_any m a n c R (psB s 119 m) (psB s 100 m) W hW hn'.out (by have := hF.few; have := hn'.out; omega) (by omega) hF.sets)
    have WA := Lib.hid (fun B i (hi : i ∈ frL m (psB s 119 m) (psB s 100 m)) W (hst : StG m a R B w W) => winsAll_any m a n c R B w hF hn'.out hst hp hsn hi)
    have hl9 := frL_len m (psB s 119 m) (psB s 100 m)
    have hm9 := hF.le
    generalize sideN t = sn at *
    generalize psB s 119 m = u at *
    generalize psB s 100 m = v at *
    obtain ⟨l, hl⟩ : ∃ l, Hid (frL m u v = l) := ⟨_, Lib.hid rfl⟩
    obtain ⟨ho, hho⟩ : ∃ ho, Hid (hasOne R u = ho) := ⟨_, Lib.hid rfl⟩
    rw [hl.out] at FS WA hl9 hr2 hq2
    rw [hho.out] at WO hq2
    replace hF := Lib.hid hF
    replace hp := Lib.hid hp
    have hll := lNi_len l
    clear hm hs hu9 hv9
    by_cases h0 : l = []
    · rw [if_pos (.inl h0)] at hq2
      subst hq2
      rw [if_neg (by omega)] at hr2
      subst hr2
      rw [h0] at FS
      clear hl h0 hl9 hll
      go_enter Tryd.func14, Tryd.ntmps14
      go_wp2_with (first
        | (go_at_call 40; refine (F.out _ hI.out).mono ?_; rintro e w1 ⟨rfl, hb1⟩)
        | (go_at_call 47; refine (FS.out _ (hTab.out.next (nextB hb1 (b2 _ _ _)))).mono ?_; rintro e w2 ⟨v, rfl, hown, hb2⟩; obtain ⟨va, vc, rfl, hvc, hI2⟩ := own_intsA hown rfl; replace hown := Lib.hid hown; replace hI2 := Lib.hid hI2))
      go_ret2
      exact Ret.mk rfl (nextB (nextB hb1 (b2 _ _ _)) hb2)
    · have hlen0 : 0 < l.length := List.length_pos_iff.2 h0
      have hl0 : ((l.length : Int) == 0) = false := by rw [beq_eq_false_iff_ne]; omega
      cases ho
      case true =>
        rw [if_pos (.inr rfl)] at hq2
        subst hq2
        rw [if_neg (by omega)] at hr2
        subst hr2
        go_enter Tryd.func14, Tryd.ntmps14
        go_wp2_with (go_at_call 40; refine (F.out _ hI.out).mono ?_; rintro e w1 ⟨rfl, hb1⟩)
        have hG := (Blk.new w1 60 #[.int .i64 (m : Nat), .slice a n c]).alloc (.cells #[.int .i64 (u : Nat), .int .i64 (v : Nat), .int .i64 (sn : Nat)] 65)
        have hH : Blk ((w1.alloc (.cells #[.int .i64 (m : Nat), .slice a n c] 60)).alloc (.cells #[.int .i64 (u : Nat), .int .i64 (v : Nat), .int .i64 (sn : Nat)] 65)) (w1.heap.size + 1) 65 #[.int .i64 (u : Nat), .int .i64 (v : Nat), .int .i64 (sn : Nat)] := by
          have := Blk.new (w1.alloc (.cells #[.int .i64 (m : Nat), .slice a n c] 60)) 65 #[.int .i64 (u : Nat), .int .i64 (v : Nat), .int .i64 (sn : Nat)]
          simpa using this
        have bw := nextB hb1 (b2 w1 (.cells #[.int .i64 (m : Nat), .slice a n c] 60) (.cells #[.int .i64 (u : Nat), .int .i64 (v : Nat), .int .i64 (sn : Nat)] 65))
        generalize (w1.alloc (.cells #[.int .i64 (m : Nat), .slice a n c] 60)).alloc (.cells #[.int .i64 (u : Nat), .int .i64 (v : Nat), .int .i64 (sn : Nat)] 65) = w2 at *
        refine (FS.out _ (hTab.out.next bw)).mono ?_
        rintro e w3 ⟨v1, rfl, hown, hb2⟩
        obtain ⟨va, vc, rfl, hvc, hI2⟩ := IntsK.of_own' hown
        rw [hll] at hvc
        replace hG := hG.ext hb2
        replace hH := hH.ext hb2
        replace bw := nextB bw hb2
        have f0 := hG.c 0 rfl
        have f1 := hG.c 1 rfl
        obtain ⟨y0, y1, y2⟩ := hH.c3
        replace hown := Lib.hid hown
        replace hG := Lib.hid hG
        replace hH := Lib.hid hH
        go_wp2_with (go_at_call 48; refine (WO.out _ (hI.out.next bw)).mono ?_; rintro e w4 ⟨rfl, hb3⟩)
        go_ret2
        exact Ret.mk rfl (nextB bw hb3)
      case false =>
        rw [if_neg (by rintro (h | h); exact h0 h; cases h)] at hq2
        subst hq2
        rw [if_pos rfl] at hr2
        replace hho := Lib.hid hho
        generalize hmv : mvL l (wB m R u v sn) = k at *
        subst hr2
        replace hmv := Lib.hid hmv
        go_enter Tryd.func14, Tryd.ntmps14
        go_wp2_with (go_at_call 40; refine (F.out _ hI.out).mono ?_; rintro e w1 ⟨rfl, hb1⟩)
        have hG := (Blk.new w1 60 #[.int .i64 (m : Nat), .slice a n c]).alloc (.cells #[.int .i64 (u : Nat), .int .i64 (v : Nat), .int .i64 (sn : Nat)] 65)
        have hH : Blk ((w1.alloc (.cells #[.int .i64 (m : Nat), .slice a n c] 60)).alloc (.cells #[.int .i64 (u : Nat), .int .i64 (v : Nat), .int .i64 (sn : Nat)] 65)) (w1.heap.size + 1) 65 #[.int .i64 (u : Nat), .int .i64 (v : Nat), .int .i64 (sn : Nat)] := by
          have := Blk.new (w1.alloc (.cells #[.int .i64 (m : Nat), .slice a n c] 60)) 65 #[.int .i64 (u : Nat), .int .i64 (v : Nat), .int .i64 (sn : Nat)]
          simpa using this
        have bw := nextB hb1 (b2 w1 (.cells #[.int .i64 (m : Nat), .slice a n c] 60) (.cells #[.int .i64 (u : Nat), .int .i64 (v : Nat), .int .i64 (sn : Nat)] 65))
        generalize (w1.alloc (.cells #[.int .i64 (m : Nat), .slice a n c] 60)).alloc (.cells #[.int .i64 (u : Nat), .int .i64 (v : Nat), .int .i64 (sn : Nat)] 65) = w2 at *
        refine (FS.out _ (hTab.out.next bw)).mono ?_
        rintro e w3 ⟨v1, rfl, hown, hb2⟩
        obtain ⟨va, vc, rfl, hvc, hI2⟩ := IntsK.of_own' hown
        rw [hll] at hvc
        replace hG := hG.ext hb2
        replace hH := hH.ext hb2
        replace bw := nextB bw hb2
        have f0 := hG.c 0 rfl
        have f1 := hG.c 1 rfl
        obtain ⟨y0, y1, y2⟩ := hH.c3
        replace hown := Lib.hid hown
        replace hG := Lib.hid hG
        replace hH := Lib.hid hH
        go_wp2_with (go_at_call 48; refine (WO.out _ (hI.out.next bw)).mono ?_; rintro e w4 ⟨rfl, hb3⟩)
        have bw4 := (nextB bw hb3).drew
        have hb4 := hb3.drew
        replace hG := hG.out.ext hb3
        replace hH := hH.out.ext hb3
        clear f0 f1 y0 y1 y2
        refine wp_region_S (fun W => Blk W w1.heap.size 60 #[.int .i64 (m : Nat), .slice a n c] ∧ Blk W (w1.heap.size + 1) 65 #[.int .i64 (u : Nat), .int .i64 (v : Nat), .int .i64 (sn : Nat)]) (by kernel_rfl) ?_
        show wpAnyS _ _ _ _ _ (6 + 1) _ _ _
        replace hG : Blk w4.drew w1.heap.size 60 #[.int .i64 (m : Nat), .slice a n c] := hG
        replace hH : Blk w4.drew (w1.heap.size + 1) 65 #[.int .i64 (u : Nat), .int .i64 (v : Nat), .int .i64 (sn : Nat)] := hH
        clear bw hb3
        generalize w4.drew = w5 at *
        have hGH := And.intro hG hH
        refine anyS_pure 0 (fV m a n c) rfl (by kernel_rfl) (by kernel_rfl) (by kernel_rfl) (fun _ _ _ h => h) (by rfl) (fun W hW => by have y0 := hW.1.c 0 rfl; have y1 := hW.1.c 1 rfl; go_simp) hGH ?_
        refine anyS_pure 2 (tV u v sn) rfl (by kernel_rfl) (by kernel_rfl) (by kernel_rfl) (fun _ _ _ h => h) (by rfl) (fun W hW => by obtain ⟨y0, y1, y2⟩ := hW.2.c3; go_simp) hGH ?_
        refine anyS_pure 3 (.slice va l.length vc) rfl (by kernel_rfl) (by kernel_rfl) (by kernel_rfl) (fun _ _ _ h => h) (by rfl) (fun W hW => by go_simp) hGH ?_
        try simp only [Act.put, List.setIfInBounds_toArray]
        replace hG := Lib.hid hG
        replace hH := Lib.hid hH
        replace hGH := Lib.hid hGH
        refine anyS_one 1 (by kernel_rfl) rfl ?_
        go_wp2_with (go_at_call 41; refine (NG.out _).mono ?_; rintro e w6 ⟨B, rfl, hB, hK, hb5⟩; replace hK := Lib.hid hK)
        show _ ∧ _
        refine ⟨⟨hG.out.ext hb5, hH.out.ext hb5⟩, ?_⟩
        have hst : Hid (StG m a R B w w6) := Lib.hid ⟨nextB bw4 hb5, hK.out, Nat.le_trans bw4.size hB, hI.out, hTab.out⟩
        have hB1 : w1.heap.size + 1 < B := by have := hH.out.lt; omega
        have MV := Lib.hid (moveA_any m a n c R B u v sn l.length vc va l w6 hK.out rfl (by omega) hlen0 ((hI2 B (by have := hb4.size; omega)).keep (Keep.of (nextB hb4 hb5))) (fun i hi w' h1 h2 => WA.out B i hi w' (hst.out.step h1 h2)))
        rw [hmv.out] at MV
        refine anyS_one 4 (by kernel_rfl) rfl ?_
        go_wp2_with (go_at_call 49; refine MV.out.mono ?_; rintro e w7 ⟨rfl, hk5, hm5⟩)
        show _ ∧ _
        refine ⟨⟨hk5.blk (by omega) (hG.out.ext hb5), hk5.blk (by omega) (hH.out.ext hb5)⟩, ?_⟩
        have hb6 := hk5.below (nextB bw4 hb5) (Nat.le_trans bw4.size hB)
        refine anyS_one 5 (by kernel_rfl) rfl ?_
        go_wp2_with fail
        show _ ∧ _
        refine ⟨⟨hk5.blk (by omega) (hG.out.ext hb5), hk5.blk (by omega) (hH.out.ext hb5)⟩, ?_⟩
        refine anyS_one 6 (by kernel_rfl) rfl ?_
        go_wp2_with fail
        show _ ∧ _
        refine ⟨⟨hk5.blk (by omega) (hG.out.ext hb5), hk5.blk (by omega) (hH.out.ext hb5)⟩, ?_⟩
        refine anyS_end (by kernel_rfl) ?_
        go_wp2
        go_ret2
        exact Ret.mk rfl hb6
  · have hq2 : Hid (q = e) := Lib.hid (by rw [← hq.out]; unfold mvE; rw [he.out, if_neg h1])
    have hr2 : Hid (r = 0) := Lib.hid (by rw [← hr.out]; unfold mvI; rw [hq.out, hq2.out, if_neg h1])
    rw [hr2.out, hq2.out]
    rw [if_neg h1, if_neg h1] at F
    have d1 : ((e : Int) != 0) = true := by rw [bne_iff_ne]; omega
    go_enter Tryd.func14, Tryd.ntmps14
    go_wp2_with (go_at_call 40; refine (F.out _ hI.out).mono ?_; rintro e w1 ⟨rfl, hb1⟩)
    go_ret2
    exact Ret.mk rfl (nextB hb1 (b2 _ _ _))
end Go.Proofs.YtbdhceolchhnjaaDoor
