/- Layer 4, by the program: Winner and Danger. -/
import Derived.Test.YtbdhceolchhnjaaDoorAq
namespace Go.Proofs.YtbdhceolchhnjaaDoor
open Go Go.RowKit

def strE : ByteArray := { data := #[] }
theorem tE_ok {x : Int} {R : List Int} {s t : ByteArray} (h : tE x R s t = 0) : x = (x.toNat : Int) ∧ FieldP x.toNat R ∧ s.size = x.toNat ∧ okS s = true ∧ isSide t = true := by
  unfold tE at h
  split at h
  · rename_i h1
    obtain ⟨h2, h3, h4, h5⟩ := pE_ok h1
    split at h
    · rename_i h6; exact ⟨h2, h3, h4, h5, h6⟩
    · omega
  · rename_i h1; exact absurd h h1
/-- The winner's letter. -/
def winS (x : Int) (R : List Int) (s t : ByteArray) : ByteArray := if tE x R s t = 0 then ltr (sd (win x.toNat R (psB s 119 x.toNat) (psB s 100 x.toNat) (sideN t == 1))) else strE
set_option maxRecDepth 100000 in
set_option maxHeartbeats 4000000 in
theorem Winner_any (x : Int) (a : Option Addr) (n c : Nat) (R : List Int) (s t : ByteArray) (w : World) (h : Ints w a R) (hn : R.length = n) (hT : Tab w) :
    Calls Tryd.prog 12 #[.int .i64 x, .slice a n c, .string s, .string t] w (Ret (.tuple #[.string (winS x R s t), .int .i64 (tE x R s t : Nat)]) w) := by
  have F := Lib.hid (fun W hW => fieldOnTurn_any x a n c R s t W hW hn)
  have hI := Lib.hid h
  have hTab := Lib.hid hT
  have hn' := Lib.hid hn
  clear h hT hn
  obtain ⟨e, he⟩ : ∃ e, Hid (tE x R s t = e) := ⟨_, Lib.hid rfl⟩
  obtain ⟨r, hr⟩ : ∃ r, Hid (winS x R s t = r) := ⟨_, Lib.hid rfl⟩
  have he6 : e < 6 := by rw [← he.out]; exact tE_lt x R s t
  rw [he.out] at F
  rw [he.out, hr.out]
  by_cases h1 : e = 0
  · subst h1
    obtain ⟨hx, hF, hs, _, _⟩ := tE_ok he.out
    obtain ⟨m, hm⟩ : ∃ m, x.toNat = m := ⟨_, rfl⟩
    have hr2 := hr.out
    unfold winS at hr2
    rw [he.out, if_pos rfl] at hr2
    simp only [if_true] at F
    rw [hm] at hx hF hr2 F hs
    subst hx
    have hp := psB_pos s m
    have hsn := sideN_lt t
    have NG := Lib.hid (fun W => newGameA_any m a n c R W)
    have WN := Lib.hid (fun B W (hst : StG m a R B w W) => winner_any m a n c R B w hF hn'.out _ (psB s 119 m) (psB s 100 m) (sideN t) W rfl hst hp hsn)
    have hsd : sd (win m R (psB s 119 m) (psB s 100 m) (sideN t == 1)) < 2 := by unfold sd; split <;> omega
    generalize sd (win m R (psB s 119 m) (psB s 100 m) (sideN t == 1)) = q at *
    have LT := Lib.hid (fun W => letter_any q hsd W)
    rw [hr2] at LT
    generalize sideN t = sn at *
    generalize psB s 119 m = u at *
    generalize psB s 100 m = v at *
    replace hF := Lib.hid hF
    replace hp := Lib.hid hp
    clear hm hr2 hs
    go_enter Tryd.func12, Tryd.ntmps12
    go_wp2_with (go_at_call 40; refine (F.out _ hI.out).mono ?_; rintro e w1 ⟨rfl, hb1⟩)
    have hG := (Blk.new w1 60 #[.int .i64 (m : Nat), .slice a n c]).alloc (.cells #[.int .i64 (u : Nat), .int .i64 (v : Nat), .int .i64 (sn : Nat)] 65)
    have hH : Blk ((w1.alloc (.cells #[.int .i64 (m : Nat), .slice a n c] 60)).alloc (.cells #[.int .i64 (u : Nat), .int .i64 (v : Nat), .int .i64 (sn : Nat)] 65)) (w1.heap.size + 1) 65 #[.int .i64 (u : Nat), .int .i64 (v : Nat), .int .i64 (sn : Nat)] := by
      have := Blk.new (w1.alloc (.cells #[.int .i64 (m : Nat), .slice a n c] 60)) 65 #[.int .i64 (u : Nat), .int .i64 (v : Nat), .int .i64 (sn : Nat)]
      simpa using this
    have bw := (nextB hb1 (b2 w1 (.cells #[.int .i64 (m : Nat), .slice a n c] 60) (.cells #[.int .i64 (u : Nat), .int .i64 (v : Nat), .int .i64 (sn : Nat)] 65))).drew
    generalize (w1.alloc (.cells #[.int .i64 (m : Nat), .slice a n c] 60)).alloc (.cells #[.int .i64 (u : Nat), .int .i64 (v : Nat), .int .i64 (sn : Nat)] 65) = w2 at *
    refine wp_region_S (fun W => Blk W w1.heap.size 60 #[.int .i64 (m : Nat), .slice a n c] ∧ Blk W (w1.heap.size + 1) 65 #[.int .i64 (u : Nat), .int .i64 (v : Nat), .int .i64 (sn : Nat)]) (by kernel_rfl) ?_
    show wpAnyS _ _ _ _ _ (6 + 1) _ _ _
    replace hG : Blk w2.drew w1.heap.size 60 #[.int .i64 (m : Nat), .slice a n c] := hG
    replace hH : Blk w2.drew (w1.heap.size + 1) 65 #[.int .i64 (u : Nat), .int .i64 (v : Nat), .int .i64 (sn : Nat)] := hH
    generalize w2.drew = w3 at *
    have hGH := And.intro hG hH
    refine anyS_pure 0 (fV m a n c) rfl (by kernel_rfl) (by kernel_rfl) (by kernel_rfl) (fun _ _ _ h => h) (by rfl) (fun W hW => by have y0 := hW.1.c 0 rfl; have y1 := hW.1.c 1 rfl; go_simp) hGH ?_
    refine anyS_pure 2 (tV u v sn) rfl (by kernel_rfl) (by kernel_rfl) (by kernel_rfl) (fun _ _ _ h => h) (by rfl) (fun W hW => by obtain ⟨y0, y1, y2⟩ := hW.2.c3; go_simp) hGH ?_
    try simp only [Act.put, List.setIfInBounds_toArray]
    replace hG := Lib.hid hG
    replace hH := Lib.hid hH
    replace hGH := Lib.hid hGH
    refine anyS_one 1 (by kernel_rfl) rfl ?_
    go_wp2_with (go_at_call 41; refine (NG.out _).mono ?_; rintro e w4 ⟨B, rfl, hB, hK, hb4⟩; replace hK := Lib.hid hK)
    show _ ∧ _
    refine ⟨⟨hG.out.ext hb4, hH.out.ext hb4⟩, ?_⟩
    have hst : Hid (StG m a R B w w4) := Lib.hid ⟨nextB bw hb4, hK.out, Nat.le_trans bw.size hB, hI.out, hTab.out⟩
    have hB1 : w1.heap.size + 1 < B := by have := hH.out.lt; omega
    refine anyS_one 3 (by kernel_rfl) rfl ?_
    go_wp2_with (go_at_call 42; refine (WN.out _ _ hst.out).mono ?_; rintro e w5 ⟨rfl, hk5, hm5⟩)
    show _ ∧ _
    refine ⟨⟨hk5.blk (by omega) (hG.out.ext hb4), hk5.blk (by omega) (hH.out.ext hb4)⟩, ?_⟩
    have hb5 := hk5.below (nextB bw hb4) (Nat.le_trans bw.size hB)
    refine anyS_one 4 (by kernel_rfl) rfl ?_
    go_wp2_with (go_at_call 43; refine (LT.out _).mono ?_; rintro e w6 ⟨rfl, rfl⟩)
    show _ ∧ _
    refine ⟨⟨hk5.blk (by omega) (hG.out.ext hb4), hk5.blk (by omega) (hH.out.ext hb4)⟩, ?_⟩
    refine anyS_one 5 (by kernel_rfl) rfl ?_
    go_wp2_with fail
    show _ ∧ _
    refine ⟨⟨hk5.blk (by omega) (hG.out.ext hb4), hk5.blk (by omega) (hH.out.ext hb4)⟩, ?_⟩
    refine anyS_one 6 (by kernel_rfl) rfl ?_
    go_wp2_with fail
    show _ ∧ _
    refine ⟨⟨hk5.blk (by omega) (hG.out.ext hb4), hk5.blk (by omega) (hH.out.ext hb4)⟩, ?_⟩
    refine anyS_end (by kernel_rfl) ?_
    go_wp2
    go_ret2
    exact Ret.mk rfl hb5
  · have hr2 : Hid (r = strE) := Lib.hid (by rw [← hr.out]; unfold winS; rw [he.out, if_neg h1])
    rw [hr2.out]
    rw [if_neg h1, if_neg h1] at F
    have d1 : ((e : Int) != 0) = true := by rw [bne_iff_ne]; omega
    go_enter Tryd.func12, Tryd.ntmps12
    go_wp2_with (go_at_call 40; refine (F.out _ hI.out).mono ?_; rintro e w1 ⟨rfl, hb1⟩)
    go_ret2
    exact Ret.mk rfl (nextB hb1 (b2 _ _ _))
/-- The danger that is returned. -/
def dngI (x : Int) (R : List Int) (s : ByteArray) : Nat := if pE x R s = 0 then dngL x.toNat R (psB s 119 x.toNat) (psB s 100 x.toNat) else 0
set_option maxRecDepth 100000 in
set_option maxHeartbeats 4000000 in
theorem Danger_any (x : Int) (a : Option Addr) (n c : Nat) (R : List Int) (s : ByteArray) (w : World) (h : Ints w a R) (hn : R.length = n) :
    Calls Tryd.prog 39 #[.int .i64 x, .slice a n c, .string s] w (Ret (.tuple #[.int .i64 (dngI x R s : Nat), .int .i64 (pE x R s : Nat)]) w) := by
  have F := Lib.hid (fun W hW => fieldAt_any x a n c R s W hW hn)
  have hI := Lib.hid h
  have hn' := Lib.hid hn
  clear h hn
  obtain ⟨e, he⟩ : ∃ e, Hid (pE x R s = e) := ⟨_, Lib.hid rfl⟩
  obtain ⟨r, hr⟩ : ∃ r, Hid (dngI x R s = r) := ⟨_, Lib.hid rfl⟩
  have he6 : e < 6 := by rw [← he.out]; exact pE_lt x R s
  rw [he.out] at F
  rw [he.out, hr.out]
  by_cases h1 : e = 0
  · subst h1
    obtain ⟨hx, hF, _⟩ := pE_ok he.out
    obtain ⟨m, hm⟩ : ∃ m, x.toNat = m := ⟨_, rfl⟩
    have hr2 := hr.out
    unfold dngI at hr2
    rw [he.out, if_pos rfl] at hr2
    simp only [if_true] at F
    rw [hm] at hx hF hr2 F
    subst hx
    obtain ⟨hu, hv⟩ := (psB_pos s m).lt hF.le
    have D := Lib.hid (fun W hW => danger_any m a n c R (psB s 119 m) (psB s 100 m) W hW hn'.out hF (by omega) (by omega))
    rw [hr2] at D
    generalize psB s 119 m = u at *
    generalize psB s 100 m = v at *
    replace hF := Lib.hid hF
    clear hm hr2
    go_enter Tryd.func39, Tryd.ntmps39
    go_wp2_with (first
      | (go_at_call 68; refine (F.out _ hI.out).mono ?_; rintro e w1 ⟨rfl, hb1⟩)
      | (go_at_call 69; refine (D.out _ (hI.out.next (nextB hb1 (b2 _ _ _)))).mono ?_; rintro e w2 ⟨rfl, hb2⟩))
    go_ret2
    exact Ret.mk rfl (nextB (nextB hb1 (b2 _ _ _)) hb2)
  · have hr2 : Hid (r = 0) := Lib.hid (by rw [← hr.out]; unfold dngI; rw [he.out, if_neg h1])
    rw [hr2.out]
    rw [if_neg h1, if_neg h1] at F
    have d1 : ((e : Int) != 0) = true := by rw [bne_iff_ne]; omega
    go_enter Tryd.func39, Tryd.ntmps39
    go_wp2_with (go_at_call 68; refine (F.out _ hI.out).mono ?_; rintro e w1 ⟨rfl, hb1⟩)
    go_ret2
    exact Ret.mk rfl (nextB hb1 (b2 _ _ _))
end Go.Proofs.YtbdhceolchhnjaaDoor
