/- VoteWins: Wins and Least return what the specification returns: the walk. -/
import Derived.Test.YtnnndooagpkgmaaWj
namespace Go.Proofs.Ytnnndooagpkgmaa
open Go Go.RowKit

/-- A list of n numbers was returned, without an error. -/
def GotN (n : Nat) (L : List Int) (w : World) (e : Ending) (w' : World) : Prop := ∃ a c, e = .returned (.tuple #[.slice a n c, .int .i64 0]) ∧ n ≤ c ∧ Ints w' a L ∧ Below w.heap.size w w'
theorem GotI.at {n : Nat} {L : List Int} {w w' : World} {e : Ending} (h : GotI L w e w') (hl : L.length = n) : GotN n L w e w' := by
  subst hl; exact h
/-- A list and an error were returned. -/
def LeastC (m : Nat) (L : List Int) (ee : Int) (w : World) (e : Ending) (w' : World) : Prop := ∃ r rc, e = .returned (.tuple #[.slice r m rc, .int .i64 ee]) ∧ Ints w' r L ∧ Below w.heap.size w w'
theorem wins_pair (q : Int) (n : Nat) (ws : List Int) (s : Int) (hl : ws.length = n) (hn : n ≤ 30) : ∃ bw ew,
    (∀ a c W, Ints W a ws → Calls Try.prog 17 #[bodyV q a n c, .int .i64 s] W (Ret (.tuple #[.bool bw, .int .i64 ew]) W)) ∧
    (∀ a c W, Ints W a ws → Calls Try.prog 18 #[bodyV q a n c, .int .i64 s] W (Ret (.tuple #[.bool bw, .int .i64 ew]) W)) := by
  by_cases hB : BodyP q ws
  · by_cases hs : 0 ≤ s ∧ s < ((pw n : Nat) : Int)
    · obtain ⟨t, rfl⟩ : ∃ t : Nat, s = t := ⟨s.toNat, by omega⟩
      exact ⟨winB q ws t, 0, fun a c W h => Wins_yes q a n c ws W t h hl hB (by omega), fun a c W h => refWins_yes q a n c ws W t h hl hB (by omega)⟩
    · exact ⟨false, 2, fun a c W h => Wins_out q a n c ws W s h hl hB hs, fun a c W h => refWins_out q a n c ws W s h hl hB hs⟩
  · exact ⟨false, 2, fun a c W h => Wins_no q a n c ws W s h hl hB, fun a c W h => refWins_no q a n c ws W s h hl hn hB⟩
theorem least_pair (q : Int) (n : Nat) (ws : List Int) (hl : ws.length = n) (hn : n ≤ 30) : ∃ m L ee, L.length = m ∧ m ≤ 300 ∧
    (∀ a c W, Ints W a ws → Calls Try.prog 19 #[bodyV q a n c] W (LeastC m L ee W)) ∧
    (∀ a c W, Ints W a ws → Calls Try.prog 20 #[bodyV q a n c] W (LeastC m L ee W)) := by
  by_cases hB : BodyP q ws
  · have h8 : n ≤ 8 := by have := hB.2.1; omega
    have hp8 : pw n ≤ 256 := by have := pw_mono h8; simpa [pw] using this
    have hlen := leastL_len (winB q ws) (pw n)
    refine ⟨_, lN (leastL (winB q ws) (pw n)), 0, rfl, by rw [lN_length]; omega, fun a c W h => ?_, fun a c W h => ?_⟩
    · exact (Least_yes q a n c ws W h hl hB).mono fun e w' ⟨r, rc, he, _, hI, hb⟩ => ⟨r, rc, he, hI, hb⟩
    · exact (refLeast_yes q a n c ws W h hl hB).mono fun e w' ⟨r, rc, he, _, hI, hb⟩ => ⟨r, rc, he, hI, hb⟩
  · refine ⟨0, [], 2, rfl, by omega, fun a c W h => ?_, fun a c W h => ?_⟩
    · exact (Least_no q a n c ws W h hl hB).mono fun e w' ⟨he, hb⟩ => ⟨none, 0, he, .inl rfl, hb⟩
    · exact (refLeast_no q a n c ws W h hl hn hB).mono fun e w' ⟨he, hb⟩ => ⟨none, 0, he, .inl rfl, hb⟩
set_option maxRecDepth 100000 in
set_option maxHeartbeats 8000000 in
theorem wins_any (q : Int) (a : Option Addr) (n c : Nat) (ws : List Int) (s : Int) (w : World) (h : Ints w a ws) (hl : ws.length = n) (_hnc : n ≤ c) (hnil : a = none → c = 0) :
    Calls Try.prog 3 #[bodyV q a n c, .int .i64 s] w (Ret (.bool true) w) := by
  have F := Lib.hid (fun W => few_any q a n c W)
  by_cases h30 : n ≤ 30
  · rw [decide_eq_true h30] at F
    replace h := Lib.hid h
    replace hl := Lib.hid hl
    replace hnil := Lib.hid hnil
    obtain ⟨bw, ew, W1, W2⟩ := wins_pair q n ws s hl.out h30
    obtain ⟨m, L, ee, hLm, hm3, L1, L2⟩ := least_pair q n ws hl.out h30
    have SL := Lib.hid (fun r r' rc rc' W hW hW' => same_at r r' m rc rc' L W hW hW' hLm (by omega))
    have SW := Lib.hid (fun r r' rc rc' W hW hW' => same_at r r' n rc rc' ws W hW hW' hl.out (by omega))
    have hbb : (bw != bw) = false := by cases bw <;> rfl
    have hee : ((ew : Int) != ew) = false := by simp
    have hee2 : ((ee : Int) == ee) = true := by simp
    replace W1 := Lib.hid W1
    replace W2 := Lib.hid W2
    replace L1 := Lib.hid L1
    replace L2 := Lib.hid L2
    clear hLm
    go_enter Try.func3, Try.ntmps3
    go_wp2_with (go_at_call 15; refine (F.out _).mono ?_; rintro e w1 ⟨rfl, hb1⟩)
    have hX := (Blk.new w 24 #[.int .i64 q, .slice a n c]).ext hb1
    have hbl := nextB (b1 w (.cells #[.int .i64 q, .slice a n c] 24)) hb1
    clear hb1
    refine wp_region_S (fun W => Blk W w.heap.size 24 #[.int .i64 q, .slice a n c]) (by kernel_rfl) ?_
    show wpAnyS _ _ _ _ _ (8 + 1) _ _ _
    replace hX : Blk w1.drew w.heap.size 24 #[.int .i64 q, .slice a n c] := hX
    replace hbl : Below w.heap.size w w1.drew := hbl.drew
    generalize w1.drew = w1 at *
    have hXl : w.heap.size < w1.heap.size := hX.lt
    refine anyS_pure 0 (.pointer (some ⟨w.heap.size, 0, none⟩)) rfl (by kernel_rfl) (by kernel_rfl) (by kernel_rfl) (fun _ _ _ h => h) (by rfl) (fun W hW => by go_simp) hX ?_
    refine anyS_pure 1 (.int .i64 q) rfl (by kernel_rfl) (by kernel_rfl) (by kernel_rfl) (fun _ _ _ h => h) (by rfl) (fun W hW => by have y0 := hW.c 0 rfl; go_simp) hX ?_
    refine anyS_pure 3 (.pointer (some ⟨w.heap.size, 1, none⟩)) rfl (by kernel_rfl) (by kernel_rfl) (by kernel_rfl) (fun _ _ _ h => h) (by rfl) (fun W hW => by go_simp) hX ?_
    refine anyS_pure 4 (.slice a n c) rfl (by kernel_rfl) (by kernel_rfl) (by kernel_rfl) (fun _ _ _ h => h) (by rfl) (fun W hW => by have y1 := hW.c 1 rfl; go_simp) hX ?_
    try simp only [Act.put, List.setIfInBounds_toArray]
    refine anyS_two 2 7 (by kernel_rfl) rfl rfl ?_ ?_
    · go_wp2_with fail
      show _ ∧ _
      have hown : ((w1).alloc (.cells #[] 3)).ownsRow w.heap.size 3 1 (.slice (some ⟨w1.heap.size, 0, none⟩) 0 0) 0 [] := by
        have h8 : w.heap.size ≤ (w1).heap.size := hbl.size
        refine ⟨rfl, .inr ⟨w1.heap.size, 0, #[], rfl, ?_, ?_, Nat.le_refl _, by unfold maxLen; omega, rfl, rfl⟩⟩
        · (try simp at h8); omega
        · have := heap_alloc_new (w1) (.cells #[] 3)
          first | exact this | simpa using this
      replace hX := hX.alloc (.cells #[] 3)
      replace hbl := hbl.alloc hbl.size (.cells #[] 3)
      refine ⟨hX, ?_⟩
      try simp only [Act.put, List.setIfInBounds_toArray, List.set_cons_zero, List.set_cons_succ]
      refine anyS_two 5 7 (by kernel_rfl) rfl rfl ?_ ?_
      · refine wpList_copy rfl _ _ rfl w.heap.size (.slice (some ⟨w1.heap.size, 0, none⟩) 0 0) rfl hown a n c ws rfl (h.out.next hbl) hl.out hnil.out (by omega) hbl.size ?_
        intro a' c' w3 hown3 hg3 hc3 hI3
        show _ ∧ _
        replace hX := hX.grown hg3 (by first | (simp [Value.ownBlock]; done) | (simp [Value.ownBlock]; omega))
        have hbl3 := hbl.grown hg3 hbl.size (fun k hk => by have := (hown.lt k hk).1; omega)
        refine ⟨hX, ?_⟩
        try simp only [Act.put, List.setIfInBounds_toArray]
        refine anyS_pure 6 (.agg #[.int .i64 q, .slice a' n c']) rfl (by kernel_rfl) (by kernel_rfl) (by kernel_rfl) (fun _ _ _ h => h) (by rfl) (fun w _ => by go_simp) hX ?_
        try simp only [Act.put]
        refine anyS_one 7 (by kernel_rfl) rfl ?_
        go_wp2_with fail
        show _ ∧ _
        refine ⟨hX.alloc _, ?_⟩
        try simp only [Act.put, List.setIfInBounds_toArray, List.set_cons_zero, List.set_cons_succ]
        refine anyS_one 8 (by kernel_rfl) rfl ?_
        have hAF := Blk.new w3 24 #[.int .i64 q, .slice a' n c']
        have hXF := hX.alloc (.cells #[.int .i64 q, .slice a' n c'] 24)
        have hIF := hI3.next (b1 w3 (.cells #[.int .i64 q, .slice a' n c'] 24))
        have hblF := hbl3.alloc hbl3.size (.cells #[.int .i64 q, .slice a' n c'] 24)
        clear hX hI3 hbl3
        replace hAF := Lib.hid hAF
        replace hXF := Lib.hid hXF
        replace hIF := Lib.hid hIF
        replace hblF := Lib.hid hblF
        go_wp2_with fail
        show _ ∧ _
        have hAF := hAF.out
        have hXF := hXF.out
        have hIF := hIF.out
        have hblF := hblF.out
        refine ⟨hXF, anyS_end (by kernel_rfl) ?_⟩
        generalize w3.alloc (.cells #[.int .i64 q, .slice a' n c'] 24) = WF at *
        generalize w3.heap.size = A at *
        have a0 := hAF.c 0 rfl
        have a1 := hAF.c 1 rfl
        have al := hAF.lt
        have x0 := hXF.c 0 rfl
        have x1 := hXF.c 1 rfl
        have xl := hXF.lt
        have hI0 := Lib.hid (h.out.next hblF)
        replace hIF := Lib.hid hIF
        replace hAF := Lib.hid hAF
        replace hXF := Lib.hid hXF
        go_wp2_with fail
        refine (W1.out _ _ _ hIF.out).mono ?_
        rintro e v1 ⟨rfl, k1⟩
        have x0 := (hXF.out.ext k1).c 0 rfl
        have x1 := (hXF.out.ext k1).c 1 rfl
        go_wp2_with fail
        refine (W2.out _ _ _ (hI0.out.next k1)).mono ?_
        rintro e v2 ⟨rfl, k2⟩
        replace k1 := nextB k1 k2
        clear k2
        have a0 := (hAF.out.ext k1).c 0 rfl
        have a1 := (hAF.out.ext k1).c 1 rfl
        go_wp2_with fail
        refine (L1.out _ _ _ (hIF.out.next k1)).mono ?_
        rintro e v3 ⟨r1, rc1, rfl, hL1, k2⟩
        replace hL1 := Lib.hid hL1
        replace k1 := nextB k1 k2
        clear k2
        have x0 := (hXF.out.ext k1).c 0 rfl
        have x1 := (hXF.out.ext k1).c 1 rfl
        go_wp2_with fail
        refine (L2.out _ _ _ (hI0.out.next k1)).mono ?_
        rintro e v4 ⟨r2, rc2, rfl, hL2, k2⟩
        replace hL1 := Lib.hid (hL1.out.next k2)
        replace hL2 := Lib.hid hL2
        replace k1 := nextB k1 k2
        clear k2
        go_wp2_with fail
        refine (SL.out _ _ _ _ _ hL1.out hL2.out).mono ?_
        rintro e v5 ⟨rfl, k2⟩
        replace k1 := nextB k1 k2
        clear k2 hL1 hL2
        have a1 := (hAF.out.ext k1).c 1 rfl
        have x1 := (hXF.out.ext k1).c 1 rfl
        go_wp2_with fail
        refine (SW.out _ _ _ _ _ (hIF.out.next k1) (hI0.out.next k1)).mono ?_
        rintro e v6 ⟨rfl, k2⟩
        replace k1 := nextB k1 k2
        clear k2
        go_wp2_with (go_at_call 16; refine (alive_any _).mono ?_; rintro e v7 ⟨rfl, k2⟩)
        go_ret
        exact Ret.mk rfl (nextB hblF (nextB k1 k2))
      · go_wp2_with fail
        show _ ∧ _
        have hA : Blk ((w1.alloc (.cells #[] 3)).alloc (.cells #[.int .i64 0, .slice none 0 0] 24)) (w1.heap.size + 1) 24 #[.int .i64 0, .slice none 0 0] := by
          have h9 := Blk.new (w1.alloc (.cells #[] 3)) 24 #[.int .i64 0, .slice none 0 0]
          first | exact h9 | simpa using h9
        have hAl : w.heap.size < w1.heap.size + 1 := by
          have h9 := hX.lt
          (try simp at h9)
          omega
        replace hX := hX.alloc (.cells #[.int .i64 0, .slice none 0 0] 24)
        replace hbl := hbl.alloc hbl.size (.cells #[.int .i64 0, .slice none 0 0] 24)
        replace hown := hown.alloc (.cells #[.int .i64 0, .slice none 0 0] 24)
        refine ⟨hX, ?_⟩
        try simp only [Act.put, List.setIfInBounds_toArray, List.set_cons_zero, List.set_cons_succ]
        refine anyS_one 5 (by kernel_rfl) rfl ?_
        refine wpList_copy rfl _ _ rfl w.heap.size (.slice (some ⟨w1.heap.size, 0, none⟩) 0 0) rfl hown a n c ws rfl (h.out.next hbl) hl.out hnil.out (by omega) hbl.size ?_
        intro a' c' w3 hown3 hg3 hc3 hI3
        show _ ∧ _
        replace hX := hX.grown hg3 (by first | (simp [Value.ownBlock]; done) | (simp [Value.ownBlock]; omega))
        have hbl3 := hbl.grown hg3 hbl.size (fun k hk => by have := (hown.lt k hk).1; omega)
        replace hA := hA.grown hg3 (by first | (simp [Value.ownBlock]; done) | (simp [Value.ownBlock]; omega))
        refine ⟨hX, ?_⟩
        try simp only [Act.put, List.setIfInBounds_toArray]
        refine anyS_pure 6 (.agg #[.int .i64 q, .slice a' n c']) rfl (by kernel_rfl) (by kernel_rfl) (by kernel_rfl) (fun _ _ _ h => h) (by rfl) (fun w _ => by go_simp) hX ?_
        try simp only [Act.put]
        refine anyS_one 8 (by kernel_rfl) rfl ?_
        have a0 := hA.c 0 rfl
        have a1 := hA.c 1 rfl
        have af0 := hA.fr 0
        have af1 := hA.fr 1
        have al := hA.lt
        have hAF := hA.set2 (.int .i64 q) (.slice a' n c')
        have hXF := (hX.other (B' := w1.heap.size + 1) (i := 0) (by omega) (.int .i64 q)).other (B' := w1.heap.size + 1) (i := 1) (by omega) (.slice a' n c')
        have hneA : ∀ x, a' = some x → x.block ≠ w1.heap.size + 1 := fun x hx => by
          subst hx
          intro e
          rcases hown3.2 with ⟨e1, _⟩ | ⟨g', cap, cur, e1, _, hg, _⟩
          · cases e1
          · cases e1
            simp at e
            subst e
            have := hA.symm.trans hg
            simp at this
        have hIF := ints_set (ints_set hI3 ⟨w1.heap.size + 1, 0, none⟩ (.int .i64 q) hneA) ⟨w1.heap.size + 1, 1, none⟩ (.slice a' n c') hneA
        have hblF : Below w.heap.size w ((w3.setCell ⟨w1.heap.size + 1, 0, none⟩ (.int .i64 q)).setCell ⟨w1.heap.size + 1, 1, none⟩ (.slice a' n c')) := (hbl3.setCell (show w.heap.size ≤ w1.heap.size + 1 by omega) _).setCell (show w.heap.size ≤ w1.heap.size + 1 by omega) _
        clear hA hX hI3 hbl3 hneA
        replace hAF := Lib.hid hAF
        replace hXF := Lib.hid hXF
        replace hIF := Lib.hid hIF
        replace hblF := Lib.hid hblF
        go_wp2_with fail
        show _ ∧ _
        have hAF := hAF.out
        have hXF := hXF.out
        have hIF := hIF.out
        have hblF := hblF.out
        refine ⟨hXF, anyS_end (by kernel_rfl) ?_⟩
        generalize ((w3.setCell ⟨w1.heap.size + 1, 0, none⟩ (.int .i64 q)).setCell ⟨w1.heap.size + 1, 1, none⟩ (.slice a' n c')) = WF at *
        generalize w1.heap.size + 1 = A at *
        have a0 := hAF.c 0 rfl
        have a1 := hAF.c 1 rfl
        have al := hAF.lt
        have x0 := hXF.c 0 rfl
        have x1 := hXF.c 1 rfl
        have xl := hXF.lt
        have hI0 := Lib.hid (h.out.next hblF)
        replace hIF := Lib.hid hIF
        replace hAF := Lib.hid hAF
        replace hXF := Lib.hid hXF
        go_wp2_with fail
        refine (W1.out _ _ _ hIF.out).mono ?_
        rintro e v1 ⟨rfl, k1⟩
        have x0 := (hXF.out.ext k1).c 0 rfl
        have x1 := (hXF.out.ext k1).c 1 rfl
        go_wp2_with fail
        refine (W2.out _ _ _ (hI0.out.next k1)).mono ?_
        rintro e v2 ⟨rfl, k2⟩
        replace k1 := nextB k1 k2
        clear k2
        have a0 := (hAF.out.ext k1).c 0 rfl
        have a1 := (hAF.out.ext k1).c 1 rfl
        go_wp2_with fail
        refine (L1.out _ _ _ (hIF.out.next k1)).mono ?_
        rintro e v3 ⟨r1, rc1, rfl, hL1, k2⟩
        replace hL1 := Lib.hid hL1
        replace k1 := nextB k1 k2
        clear k2
        have x0 := (hXF.out.ext k1).c 0 rfl
        have x1 := (hXF.out.ext k1).c 1 rfl
        go_wp2_with fail
        refine (L2.out _ _ _ (hI0.out.next k1)).mono ?_
        rintro e v4 ⟨r2, rc2, rfl, hL2, k2⟩
        replace hL1 := Lib.hid (hL1.out.next k2)
        replace hL2 := Lib.hid hL2
        replace k1 := nextB k1 k2
        clear k2
        go_wp2_with fail
        refine (SL.out _ _ _ _ _ hL1.out hL2.out).mono ?_
        rintro e v5 ⟨rfl, k2⟩
        replace k1 := nextB k1 k2
        clear k2 hL1 hL2
        have a1 := (hAF.out.ext k1).c 1 rfl
        have x1 := (hXF.out.ext k1).c 1 rfl
        go_wp2_with fail
        refine (SW.out _ _ _ _ _ (hIF.out.next k1) (hI0.out.next k1)).mono ?_
        rintro e v6 ⟨rfl, k2⟩
        replace k1 := nextB k1 k2
        clear k2
        go_wp2_with (go_at_call 16; refine (alive_any _).mono ?_; rintro e v7 ⟨rfl, k2⟩)
        go_ret
        exact Ret.mk rfl (nextB hblF (nextB k1 k2))
    · go_wp2_with fail
      show _ ∧ _
      have hA : Blk ((w1).alloc (.cells #[.int .i64 0, .slice none 0 0] 24)) (w1.heap.size) 24 #[.int .i64 0, .slice none 0 0] := by
        have h9 := Blk.new (w1) 24 #[.int .i64 0, .slice none 0 0]
        first | exact h9 | simpa using h9
      have hAl : w.heap.size < w1.heap.size := by
        have h9 := hX.lt
        (try simp at h9)
        omega
      replace hX := hX.alloc (.cells #[.int .i64 0, .slice none 0 0] 24)
      replace hbl := hbl.alloc hbl.size (.cells #[.int .i64 0, .slice none 0 0] 24)
      refine ⟨hX, ?_⟩
      try simp only [Act.put, List.setIfInBounds_toArray, List.set_cons_zero, List.set_cons_succ]
      refine anyS_one 2 (by kernel_rfl) rfl ?_
      go_wp2_with fail
      show _ ∧ _
      have hown : ((w1.alloc (.cells #[.int .i64 0, .slice none 0 0] 24)).alloc (.cells #[] 3)).ownsRow w.heap.size 3 1 (.slice (some ⟨w1.heap.size + 1, 0, none⟩) 0 0) 0 [] := by
        have h8 : w.heap.size ≤ (w1.alloc (.cells #[.int .i64 0, .slice none 0 0] 24)).heap.size := hbl.size
        refine ⟨rfl, .inr ⟨w1.heap.size + 1, 0, #[], rfl, ?_, ?_, Nat.le_refl _, by unfold maxLen; omega, rfl, rfl⟩⟩
        · (try simp at h8); omega
        · have := heap_alloc_new (w1.alloc (.cells #[.int .i64 0, .slice none 0 0] 24)) (.cells #[] 3)
          first | exact this | simpa using this
      replace hX := hX.alloc (.cells #[] 3)
      replace hbl := hbl.alloc hbl.size (.cells #[] 3)
      replace hA := hA.alloc (.cells #[] 3)
      refine ⟨hX, ?_⟩
      try simp only [Act.put, List.setIfInBounds_toArray, List.set_cons_zero, List.set_cons_succ]
      refine anyS_one 5 (by kernel_rfl) rfl ?_
      refine wpList_copy rfl _ _ rfl w.heap.size (.slice (some ⟨w1.heap.size + 1, 0, none⟩) 0 0) rfl hown a n c ws rfl (h.out.next hbl) hl.out hnil.out (by omega) hbl.size ?_
      intro a' c' w3 hown3 hg3 hc3 hI3
      show _ ∧ _
      replace hX := hX.grown hg3 (by first | (simp [Value.ownBlock]; done) | (simp [Value.ownBlock]; omega))
      have hbl3 := hbl.grown hg3 hbl.size (fun k hk => by have := (hown.lt k hk).1; omega)
      replace hA := hA.grown hg3 (by first | (simp [Value.ownBlock]; done) | (simp [Value.ownBlock]; omega))
      refine ⟨hX, ?_⟩
      try simp only [Act.put, List.setIfInBounds_toArray]
      refine anyS_pure 6 (.agg #[.int .i64 q, .slice a' n c']) rfl (by kernel_rfl) (by kernel_rfl) (by kernel_rfl) (fun _ _ _ h => h) (by rfl) (fun w _ => by go_simp) hX ?_
      try simp only [Act.put]
      refine anyS_one 8 (by kernel_rfl) rfl ?_
      have a0 := hA.c 0 rfl
      have a1 := hA.c 1 rfl
      have af0 := hA.fr 0
      have af1 := hA.fr 1
      have al := hA.lt
      have hAF := hA.set2 (.int .i64 q) (.slice a' n c')
      have hXF := (hX.other (B' := w1.heap.size) (i := 0) (by omega) (.int .i64 q)).other (B' := w1.heap.size) (i := 1) (by omega) (.slice a' n c')
      have hneA : ∀ x, a' = some x → x.block ≠ w1.heap.size := fun x hx => by
        subst hx
        intro e
        rcases hown3.2 with ⟨e1, _⟩ | ⟨g', cap, cur, e1, _, hg, _⟩
        · cases e1
        · cases e1
          simp at e
          subst e
          have := hA.symm.trans hg
          simp at this
      have hIF := ints_set (ints_set hI3 ⟨w1.heap.size, 0, none⟩ (.int .i64 q) hneA) ⟨w1.heap.size, 1, none⟩ (.slice a' n c') hneA
      have hblF : Below w.heap.size w ((w3.setCell ⟨w1.heap.size, 0, none⟩ (.int .i64 q)).setCell ⟨w1.heap.size, 1, none⟩ (.slice a' n c')) := (hbl3.setCell (show w.heap.size ≤ w1.heap.size by omega) _).setCell (show w.heap.size ≤ w1.heap.size by omega) _
      clear hA hX hI3 hbl3 hneA
      replace hAF := Lib.hid hAF
      replace hXF := Lib.hid hXF
      replace hIF := Lib.hid hIF
      replace hblF := Lib.hid hblF
      go_wp2_with fail
      show _ ∧ _
      have hAF := hAF.out
      have hXF := hXF.out
      have hIF := hIF.out
      have hblF := hblF.out
      refine ⟨hXF, anyS_end (by kernel_rfl) ?_⟩
      generalize ((w3.setCell ⟨w1.heap.size, 0, none⟩ (.int .i64 q)).setCell ⟨w1.heap.size, 1, none⟩ (.slice a' n c')) = WF at *
      generalize w1.heap.size = A at *
      have a0 := hAF.c 0 rfl
      have a1 := hAF.c 1 rfl
      have al := hAF.lt
      have x0 := hXF.c 0 rfl
      have x1 := hXF.c 1 rfl
      have xl := hXF.lt
      have hI0 := Lib.hid (h.out.next hblF)
      replace hIF := Lib.hid hIF
      replace hAF := Lib.hid hAF
      replace hXF := Lib.hid hXF
      go_wp2_with fail
      refine (W1.out _ _ _ hIF.out).mono ?_
      rintro e v1 ⟨rfl, k1⟩
      have x0 := (hXF.out.ext k1).c 0 rfl
      have x1 := (hXF.out.ext k1).c 1 rfl
      go_wp2_with fail
      refine (W2.out _ _ _ (hI0.out.next k1)).mono ?_
      rintro e v2 ⟨rfl, k2⟩
      replace k1 := nextB k1 k2
      clear k2
      have a0 := (hAF.out.ext k1).c 0 rfl
      have a1 := (hAF.out.ext k1).c 1 rfl
      go_wp2_with fail
      refine (L1.out _ _ _ (hIF.out.next k1)).mono ?_
      rintro e v3 ⟨r1, rc1, rfl, hL1, k2⟩
      replace hL1 := Lib.hid hL1
      replace k1 := nextB k1 k2
      clear k2
      have x0 := (hXF.out.ext k1).c 0 rfl
      have x1 := (hXF.out.ext k1).c 1 rfl
      go_wp2_with fail
      refine (L2.out _ _ _ (hI0.out.next k1)).mono ?_
      rintro e v4 ⟨r2, rc2, rfl, hL2, k2⟩
      replace hL1 := Lib.hid (hL1.out.next k2)
      replace hL2 := Lib.hid hL2
      replace k1 := nextB k1 k2
      clear k2
      go_wp2_with fail
      refine (SL.out _ _ _ _ _ hL1.out hL2.out).mono ?_
      rintro e v5 ⟨rfl, k2⟩
      replace k1 := nextB k1 k2
      clear k2 hL1 hL2
      have a1 := (hAF.out.ext k1).c 1 rfl
      have x1 := (hXF.out.ext k1).c 1 rfl
      go_wp2_with fail
      refine (SW.out _ _ _ _ _ (hIF.out.next k1) (hI0.out.next k1)).mono ?_
      rintro e v6 ⟨rfl, k2⟩
      replace k1 := nextB k1 k2
      clear k2
      go_wp2_with (go_at_call 16; refine (alive_any _).mono ?_; rintro e v7 ⟨rfl, k2⟩)
      go_ret
      exact Ret.mk rfl (nextB hblF (nextB k1 k2))
  · rw [decide_eq_false h30] at F
    clear hl
    go_enter Try.func3, Try.ntmps3
    go_wp2_with (first
      | (go_at_call 15; refine (F.out _).mono ?_; rintro e w1 ⟨rfl, hb1⟩)
      | (go_at_call 16; refine (alive_any _).mono ?_; rintro e w2 ⟨rfl, hb2⟩))
    go_ret
    exact Ret.mk rfl (nextB (b1 _ _) (nextB hb1 hb2))
end Go.Proofs.Ytnnndooagpkgmaa
