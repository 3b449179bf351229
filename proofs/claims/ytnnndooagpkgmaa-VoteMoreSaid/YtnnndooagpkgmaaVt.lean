/- Layer 3, by the program: the lightest body. -/
import Derived.Test.YtnnndooagpkgmaaVs
namespace Go.Proofs.Ytnnndooagpkgmaa
open Go Go.RowKit

/-- The lightest body. -/
def lightM (f : Nat → Bool) (n : Nat) : Option (Int × List Int) := searchM (fun s => compM f n [] s) 1 ((n : Int) * 9 + 1 - 1).toNat
/-- A body was returned, or none. -/
def BodyM (n : Nat) (r : Option (Int × List Int)) (w : World) (e : Ending) (w' : World) : Prop :=
  Below w.heap.size w w' ∧ match r with
    | none => e = .returned (bodyB 0 (.slice none 0 0) false)
    | some (q, vs) => ∃ G, e = .returned (bodyB q (.slice (some ⟨G, 0, none⟩) n n) true) ∧ w.heap.size ≤ G ∧ vs.length = n ∧ Ints w' (some ⟨G, 0, none⟩) vs
def LightIn (f : Nat → Bool) (n N B : Nat) (g : Int → Option (Int × List Int)) (w : World) (v : Value) (wr : World) : Prop :=
  ∃ s : Int, 1 ≤ s ∧ s ≤ (n : Int) * 9 + 1 ∧ v = .int .i64 s ∧ searchM g 1 ((n : Int) * 9 + 1 - 1).toNat = searchM g s ((n : Int) * 9 + 1 - s).toNat ∧ Below w.heap.size w wr ∧
    Blk wr w.heap.size 60 #[.int .i64 (n : Nat), .slice (some ⟨B, 0, none⟩) N N] ∧ Blk wr (w.heap.size + 1) 24 #[.int .i64 0, .slice none 0 0] ∧ Bools wr B N f
set_option maxRecDepth 100000 in
set_option maxHeartbeats 8000000 in
theorem lightest_any (n B : Nat) (f : Nat → Bool) (w : World) (h1 : 1 ≤ n) (h8 : n ≤ 8) (hBo : Bools w B (pw n) f) :
    Calls Try.prog 61 #[gV n B (pw n)] w (BodyM n (lightM f n) w) := by
  obtain ⟨i0, hi, hz0, hz1, hz2⟩ := info_parts infoInt
  have H0 := Lib.hid hi
  have H1 := Lib.hid hz0
  have H2 := Lib.hid hz1
  have H3 := Lib.hid hz2
  clear hi hz0 hz1 hz2
  have hBl : B < w.heap.size := block_lt_of_cell (hBo 0 (pw_pos n))
  have C := Lib.hid (fun G s W (hG : B ≠ G) (h0 : 0 ≤ s) (h72 : s ≤ 72) hb (hr : W.ownsRow G 3 1 (.slice (some ⟨G, 0, none⟩) 0 n) 0 []) => complete_any G n B G f h8 hG n 0 [] s W (by omega) (fun i hi => absurd hi (by simp)) h0 h72 hb hr)
  obtain ⟨N, hN⟩ : ∃ N, Hid (pw n = N) := ⟨_, Lib.hid rfl⟩
  rw [hN.out] at C hBo ⊢
  obtain ⟨g, hg⟩ : ∃ g : Int → Option (Int × List Int), Hid (∀ s, g s = compM f n [] s) := ⟨_, Lib.hid fun _ => rfl⟩
  have hlm : Hid (lightM f n = searchM g 1 ((n : Int) * 9 + 1 - 1).toNat) := Lib.hid (by
    have : (fun s => compM f n [] s) = g := funext fun x => (hg.out x).symm
    rw [← this]
    rfl)
  generalize lightM f n = r at *
  go_enter Try.func61, Try.ntmps61
  go_wp2
  have hR0 := two_box w #[.int .i64 (n : Nat), .slice (some ⟨B, 0, none⟩) N N] #[.int .i64 0, .slice none 0 0] 60 24
  have hX0 := (Blk.new w 60 #[.int .i64 (n : Nat), .slice (some ⟨B, 0, none⟩) N N]).alloc (.cells #[.int .i64 0, .slice none 0 0] 24)
  have hbb := b2 w (.cells #[.int .i64 (n : Nat), .slice (some ⟨B, 0, none⟩) N N] 60) (.cells #[.int .i64 0, .slice none 0 0] 24)
  go_loopw [4, 5, 6] (fun x _ _ wr => LightIn f n N B g w x wr) (fun x _ _ _ => ((n : Int) * 9 + 1 - intOf x).toNat)
  case atStart => exact ⟨1, by omega, by omega, rfl, rfl, hbb, hX0, hR0, hBo.next hbb⟩
  case round =>
    clear hX0 hR0 hbb hBo
    obtain ⟨sum, hs1, hs2, rfl, hse, hbl, hX, hR, hBo⟩ := hrel
    have x0 := hX.c 0 rfl
    have x1 := hX.c 1 rfl
    have xl := hX.lt
    have hbls := hbl.size
    by_cases hsn : sum ≤ (n : Int) * 9
    · cases hgx : g sum with
      | none =>
        have CM := Lib.hid (fun G s W (he : s = sum) (hG : B ≠ G) (hb : Bools W B N f) (hr : W.ownsRow G 3 1 (.slice (some ⟨G, 0, none⟩) 0 n) 0 []) => (show Calls Try.prog 75 #[gV n B N, .slice (some ⟨G, 0, none⟩) 0 n, .int .i64 s] W (CompR G G n 0 [] none W) by
          subst he
          have := C.out G s W hG (by omega) (by omega) hb hr
          rw [← hg.out, hgx] at this
          exact this))
        go_wp2
        refine wp_region_S (fun W => Blk W w.heap.size 60 #[.int .i64 (n : Nat), .slice (some ⟨B, 0, none⟩) N N]) (by kernel_rfl) ?_
        show wpAnyS _ _ _ _ _ (11 + 1) _ _ _
        replace hbl : Below w.heap.size w wr.drew := hbl.drew
        replace hX : Blk wr.drew w.heap.size 60 #[.int .i64 (n : Nat), .slice (some ⟨B, 0, none⟩) N N] := hX
        replace hR : Blk wr.drew (w.heap.size + 1) 24 #[.int .i64 0, .slice none 0 0] := hR
        replace hBo : Bools wr.drew B N f := hBo
        clear x0 x1 xl
        generalize wr.drew = W at *
        refine anyS_pure 0 (gV n B N) rfl (by kernel_rfl) (by kernel_rfl) (by kernel_rfl) (fun _ _ _ h => h) (by rfl) (fun W hW => by have y0 := hW.c 0 rfl; have y1 := hW.c 1 rfl; go_simp) hX ?_
        refine anyS_pure 1 (.pointer (some ⟨w.heap.size, 0, none⟩)) rfl (by kernel_rfl) (by kernel_rfl) (by kernel_rfl) (fun _ _ _ h => h) (by rfl) (fun W hW => by go_simp) hX ?_
        refine anyS_pure 2 (.int .i64 (n : Nat)) rfl (by kernel_rfl) (by kernel_rfl) (by kernel_rfl) (fun _ _ _ h => h) (by rfl) (fun W hW => by have y0 := hW.c 0 rfl; go_simp) hX ?_
        refine anyS_pure 4 (.int .i64 sum) rfl (by kernel_rfl) (by kernel_rfl) (by kernel_rfl) (fun _ _ _ h => h) (by rfl) (fun W hW => by go_simp) hX ?_
        try simp only [Act.put, List.setIfInBounds_toArray]
        refine anyS_two 3 9 (by kernel_rfl) rfl rfl ?_ ?_
        · refine wpList_make_own (W) rfl _ _ 22 rfl (W.heap.size) 3 i0 (.int .i64 0) 1 Try.underlying22 H0.out H1.out H2.out .i64 .i64 n n rfl rfl rfl (by rw [H3.out]; omega) (by unfold maxLen; omega) (by first | exact Nat.le_refl _ | (simp; done)) ?_
          intro w2 hG hg2
          show _ ∧ _
          replace hG : w2.ownsRow (W.heap.size) 3 1 (.slice (some ⟨W.heap.size, 0, none⟩) 0 n) 0 [] := by first | exact hG | simpa using hG
          have hWle : W.heap.size < w2.heap.size := (hG.lt _ rfl).2
          have hGA : w.heap.size + 1 < W.heap.size := by
            have h9 := hR.lt
            (try simp at h9)
            omega
          have hbl2 := Below.grown hbl hg2 (by have := hbl.size; (try simp); (try simp at this); omega) (fun k hk => by cases hk)
          replace hX := hX.grown hg2 (by simp)
          replace hR := hR.grown hg2 (by simp)
          replace hBo := hBo.grown hg2 (by simp)
          refine ⟨hX, ?_⟩
          try simp only [Act.put]
          refine anyS_two 5 9 (by kernel_rfl) rfl rfl ?_ ?_
          · go_wp2_with (go_at_call 75; refine (CM.out (W.heap.size) sum w2 rfl (by omega) hBo hG).mono ?_; rintro e w4 ⟨hg4, rfl, hw4⟩)
            show _ ∧ _
            have hbl4 := Below.grown hbl2 hg4 (by have := hbl2.size; omega) (fun k hk => by cases hk; (try simp); omega)
            replace hX := hX.grown hg4 (by first | (simp; done) | (simp; omega))
            replace hR := hR.grown hg4 (by first | (simp; done) | (simp; omega))
            replace hBo := hBo.grown hg4 (by first | (simp; done) | (simp; omega))
            refine ⟨hX, ?_⟩
            try simp only [Act.put, List.setIfInBounds_toArray, List.set_cons_zero, List.set_cons_succ]
            refine anyS_pure 6 (bodyB 0 (.slice none 0 0) false) rfl (by kernel_rfl) (by kernel_rfl) (by kernel_rfl) (fun _ _ _ h => h) (by rfl) (fun w _ => by go_simp) hX ?_
            refine anyS_pure 7 (.agg #[.int .i64 0, .slice none 0 0]) rfl (by kernel_rfl) (by kernel_rfl) (by kernel_rfl) (fun _ _ _ h => h) (by rfl) (fun w _ => by go_simp) hX ?_
            refine anyS_pure 8 (.bool false) rfl (by kernel_rfl) (by kernel_rfl) (by kernel_rfl) (fun _ _ _ h => h) (by rfl) (fun w _ => by go_simp) hX ?_
            try simp only [Act.put, List.setIfInBounds_toArray]
            refine anyS_one 9 (by kernel_rfl) rfl ?_
            go_wp2_with fail
            show _ ∧ _
            refine ⟨hX.alloc _, ?_⟩
            try simp only [Act.put, List.setIfInBounds_toArray, List.set_cons_zero, List.set_cons_succ]
            refine anyS_one 10 (by kernel_rfl) rfl ?_
            have hAF := Blk.new w4 24 #[.int .i64 0, .slice none 0 0]
            have hXF := hX.alloc (.cells #[.int .i64 0, .slice none 0 0] 24)
            have hRF := hR.alloc (.cells #[.int .i64 0, .slice none 0 0] 24)
            have hBF := hBo.next (b1 w4 (.cells #[.int .i64 0, .slice none 0 0] 24))
            have hblF := hbl4.alloc hbl4.size (.cells #[.int .i64 0, .slice none 0 0] 24)
            have hGF := owns_next hw4 (b1 w4 (.cells #[.int .i64 0, .slice none 0 0] 24))
            clear hX hR hBo hbl4 hw4
            replace hAF := Lib.hid hAF
            replace hXF := Lib.hid hXF
            replace hRF := Lib.hid hRF
            replace hBF := Lib.hid hBF
            replace hblF := Lib.hid hblF
            replace hGF := Lib.hid hGF
            go_wp2_with fail
            show _ ∧ _
            replace hAF := hAF.out
            replace hXF := hXF.out
            replace hRF := hRF.out
            replace hBF := hBF.out
            replace hblF := hblF.out
            replace hGF := hGF.out
            refine ⟨hXF, ?_⟩
            refine anyS_one 11 (by kernel_rfl) rfl ?_
            go_wp2_with fail
            show _ ∧ _
            refine ⟨hXF, anyS_end (by kernel_rfl) ?_⟩
            have hseq := Lib.hid (hse.trans (searchM_none hsn hgx))
            replace hXF := Lib.hid hXF
            replace hRF := Lib.hid hRF
            replace hBF := Lib.hid hBF
            clear hse hgx hAF hGF
            generalize w4.alloc (.cells #[.int .i64 0, .slice none 0 0] 24) = WF at *
            go_wp2
            go_roundw
            case rel => exact ⟨sum + 1, by omega, by omega, rfl, hseq.out, hblF, hXF.out, hRF.out, hBF.out⟩
            case measure => simp [intOf]; omega
          · go_wp2_with fail
            show _ ∧ _
            have hA : Blk ((w2).alloc (.cells #[.int .i64 0, .slice none 0 0] 24)) (w2.heap.size) 24 #[.int .i64 0, .slice none 0 0] := by
              have h9 := Blk.new (w2) 24 #[.int .i64 0, .slice none 0 0]
              first | exact h9 | simpa using h9
            have hAl : w.heap.size + 1 < w2.heap.size := by
              have h9 := hR.lt
              (try simp at h9)
              omega
            replace hX := hX.alloc (.cells #[.int .i64 0, .slice none 0 0] 24)
            replace hR := hR.alloc (.cells #[.int .i64 0, .slice none 0 0] 24)
            replace hBo := hBo.next (b1 (w2) (.cells #[.int .i64 0, .slice none 0 0] 24))
            replace hbl2 := hbl2.alloc (hbl2.size) (.cells #[.int .i64 0, .slice none 0 0] 24)
            replace hG := owns_next hG (b1 w2 (.cells #[.int .i64 0, .slice none 0 0] 24))
            refine ⟨hX, ?_⟩
            try simp only [Act.put, List.setIfInBounds_toArray, List.set_cons_zero, List.set_cons_succ]
            refine anyS_one 5 (by kernel_rfl) rfl ?_
            go_wp2_with (go_at_call 75; refine (CM.out (W.heap.size) sum (w2.alloc (.cells #[.int .i64 0, .slice none 0 0] 24)) rfl (by omega) hBo hG).mono ?_; rintro e w4 ⟨hg4, rfl, hw4⟩)
            show _ ∧ _
            have hbl4 := Below.grown hbl2 hg4 (by have := hbl2.size; omega) (fun k hk => by cases hk; (try simp); omega)
            replace hX := hX.grown hg4 (by first | (simp; done) | (simp; omega))
            replace hR := hR.grown hg4 (by first | (simp; done) | (simp; omega))
            replace hBo := hBo.grown hg4 (by first | (simp; done) | (simp; omega))
            replace hA := hA.grown hg4 (by first | (simp; done) | (simp; omega))
            refine ⟨hX, ?_⟩
            try simp only [Act.put, List.setIfInBounds_toArray, List.set_cons_zero, List.set_cons_succ]
            refine anyS_pure 6 (bodyB 0 (.slice none 0 0) false) rfl (by kernel_rfl) (by kernel_rfl) (by kernel_rfl) (fun _ _ _ h => h) (by rfl) (fun w _ => by go_simp) hX ?_
            refine anyS_pure 7 (.agg #[.int .i64 0, .slice none 0 0]) rfl (by kernel_rfl) (by kernel_rfl) (by kernel_rfl) (fun _ _ _ h => h) (by rfl) (fun w _ => by go_simp) hX ?_
            refine anyS_pure 8 (.bool false) rfl (by kernel_rfl) (by kernel_rfl) (by kernel_rfl) (fun _ _ _ h => h) (by rfl) (fun w _ => by go_simp) hX ?_
            try simp only [Act.put, List.setIfInBounds_toArray]
            refine anyS_one 10 (by kernel_rfl) rfl ?_
            have a0 := hA.c 0 rfl
            have a1 := hA.c 1 rfl
            have af0 := hA.fr 0
            have af1 := hA.fr 1
            have al := hA.lt
            have hAF := hA.set2 (.int .i64 0) (.slice none 0 0)
            have hXF := (hX.other (B' := w2.heap.size) (i := 0) (by omega) (.int .i64 0)).other (B' := w2.heap.size) (i := 1) (by omega) (.slice none 0 0)
            have hRF := (hR.other (B' := w2.heap.size) (i := 0) (by omega) (.int .i64 0)).other (B' := w2.heap.size) (i := 1) (by omega) (.slice none 0 0)
            have hBF := (hBo.other (B' := w2.heap.size) (i := 0) (by omega) (.int .i64 0)).other (B' := w2.heap.size) (i := 1) (by omega) (.slice none 0 0)
            have hblF : Below w.heap.size w ((w4.setCell ⟨w2.heap.size, 0, none⟩ (.int .i64 0)).setCell ⟨w2.heap.size, 1, none⟩ (.slice none 0 0)) := (hbl4.setCell (show w.heap.size ≤ w2.heap.size by omega) _).setCell (show w.heap.size ≤ w2.heap.size by omega) _
            have hGF : rowG ((w4.setCell ⟨w2.heap.size, 0, none⟩ (.int .i64 0)).setCell ⟨w2.heap.size, 1, none⟩ (.slice none 0 0)) _ _ 0 n [] := ownsRow_setCell_other (a := ⟨w2.heap.size, 1, none⟩) (ownsRow_setCell_other (a := ⟨w2.heap.size, 0, none⟩) hw4 (by first | (simp [Value.ownBlock]; done) | (simp [Value.ownBlock]; omega)) (.int .i64 0)) (by first | (simp [Value.ownBlock]; done) | (simp [Value.ownBlock]; omega)) (.slice none 0 0)
            clear hA hX hR hBo hbl4 hw4
            replace hAF := Lib.hid hAF
            replace hXF := Lib.hid hXF
            replace hRF := Lib.hid hRF
            replace hBF := Lib.hid hBF
            replace hblF := Lib.hid hblF
            replace hGF := Lib.hid hGF
            go_wp2_with fail
            show _ ∧ _
            replace hAF := hAF.out
            replace hXF := hXF.out
            replace hRF := hRF.out
            replace hBF := hBF.out
            replace hblF := hblF.out
            replace hGF := hGF.out
            refine ⟨hXF, ?_⟩
            refine anyS_one 11 (by kernel_rfl) rfl ?_
            go_wp2_with fail
            show _ ∧ _
            refine ⟨hXF, anyS_end (by kernel_rfl) ?_⟩
            have hseq := Lib.hid (hse.trans (searchM_none hsn hgx))
            replace hXF := Lib.hid hXF
            replace hRF := Lib.hid hRF
            replace hBF := Lib.hid hBF
            clear hse hgx hAF hGF
            generalize ((w4.setCell ⟨w2.heap.size, 0, none⟩ (.int .i64 0)).setCell ⟨w2.heap.size, 1, none⟩ (.slice none 0 0)) = WF at *
            go_wp2
            go_roundw
            case rel => exact ⟨sum + 1, by omega, by omega, rfl, hseq.out, hblF, hXF.out, hRF.out, hBF.out⟩
            case measure => simp [intOf]; omega
        · go_wp2_with fail
          show _ ∧ _
          have hA : Blk ((W).alloc (.cells #[.int .i64 0, .slice none 0 0] 24)) (W.heap.size) 24 #[.int .i64 0, .slice none 0 0] := by
            have h9 := Blk.new (W) 24 #[.int .i64 0, .slice none 0 0]
            first | exact h9 | simpa using h9
          have hAl : w.heap.size + 1 < W.heap.size := by
            have h9 := hR.lt
            (try simp at h9)
            omega
          replace hX := hX.alloc (.cells #[.int .i64 0, .slice none 0 0] 24)
          replace hR := hR.alloc (.cells #[.int .i64 0, .slice none 0 0] 24)
          replace hBo := hBo.next (b1 (W) (.cells #[.int .i64 0, .slice none 0 0] 24))
          replace hbl := hbl.alloc (hbl.size) (.cells #[.int .i64 0, .slice none 0 0] 24)
          refine ⟨hX, ?_⟩
          try simp only [Act.put, List.setIfInBounds_toArray, List.set_cons_zero, List.set_cons_succ]
          refine anyS_one 3 (by kernel_rfl) rfl ?_
          refine wpList_make_own (W.alloc (.cells #[.int .i64 0, .slice none 0 0] 24)) rfl _ _ 22 rfl (W.heap.size + 1) 3 i0 (.int .i64 0) 1 Try.underlying22 H0.out H1.out H2.out .i64 .i64 n n rfl rfl rfl (by rw [H3.out]; omega) (by unfold maxLen; omega) (by first | exact Nat.le_refl _ | (simp; done)) ?_
          intro w2 hG hg2
          show _ ∧ _
          replace hG : w2.ownsRow (W.heap.size + 1) 3 1 (.slice (some ⟨W.heap.size + 1, 0, none⟩) 0 n) 0 [] := by first | exact hG | simpa using hG
          have hWle : W.heap.size + 1 < w2.heap.size := (hG.lt _ rfl).2
          have hGA : w.heap.size + 1 < W.heap.size + 1 := by
            have h9 := hR.lt
            (try simp at h9)
            omega
          have hbl2 := Below.grown hbl hg2 (by have := hbl.size; (try simp); (try simp at this); omega) (fun k hk => by cases hk)
          replace hX := hX.grown hg2 (by simp)
          replace hR := hR.grown hg2 (by simp)
          replace hBo := hBo.grown hg2 (by simp)
          replace hA := hA.grown hg2 (by simp)
          refine ⟨hX, ?_⟩
          try simp only [Act.put, List.setIfInBounds_toArray]
          refine anyS_one 5 (by kernel_rfl) rfl ?_
          go_wp2_with (go_at_call 75; refine (CM.out (W.heap.size + 1) sum w2 rfl (by omega) hBo hG).mono ?_; rintro e w4 ⟨hg4, rfl, hw4⟩)
          show _ ∧ _
          have hbl4 := Below.grown hbl2 hg4 (by have := hbl2.size; omega) (fun k hk => by cases hk; (try simp); omega)
          replace hX := hX.grown hg4 (by first | (simp; done) | (simp; omega))
          replace hR := hR.grown hg4 (by first | (simp; done) | (simp; omega))
          replace hBo := hBo.grown hg4 (by first | (simp; done) | (simp; omega))
          replace hA := hA.grown hg4 (by first | (simp; done) | (simp; omega))
          refine ⟨hX, ?_⟩
          try simp only [Act.put, List.setIfInBounds_toArray, List.set_cons_zero, List.set_cons_succ]
          refine anyS_pure 6 (bodyB 0 (.slice none 0 0) false) rfl (by kernel_rfl) (by kernel_rfl) (by kernel_rfl) (fun _ _ _ h => h) (by rfl) (fun w _ => by go_simp) hX ?_
          refine anyS_pure 7 (.agg #[.int .i64 0, .slice none 0 0]) rfl (by kernel_rfl) (by kernel_rfl) (by kernel_rfl) (fun _ _ _ h => h) (by rfl) (fun w _ => by go_simp) hX ?_
          refine anyS_pure 8 (.bool false) rfl (by kernel_rfl) (by kernel_rfl) (by kernel_rfl) (fun _ _ _ h => h) (by rfl) (fun w _ => by go_simp) hX ?_
          try simp only [Act.put, List.setIfInBounds_toArray]
          refine anyS_one 10 (by kernel_rfl) rfl ?_
          have a0 := hA.c 0 rfl
          have a1 := hA.c 1 rfl
          have af0 := hA.fr 0
          have af1 := hA.fr 1
          have al := hA.lt
          have hAF := hA.set2 (.int .i64 0) (.slice none 0 0)
          have hXF := (hX.other (B' := W.heap.size) (i := 0) (by omega) (.int .i64 0)).other (B' := W.heap.size) (i := 1) (by omega) (.slice none 0 0)
          have hRF := (hR.other (B' := W.heap.size) (i := 0) (by omega) (.int .i64 0)).other (B' := W.heap.size) (i := 1) (by omega) (.slice none 0 0)
          have hBF := (hBo.other (B' := W.heap.size) (i := 0) (by omega) (.int .i64 0)).other (B' := W.heap.size) (i := 1) (by omega) (.slice none 0 0)
          have hblF : Below w.heap.size w ((w4.setCell ⟨W.heap.size, 0, none⟩ (.int .i64 0)).setCell ⟨W.heap.size, 1, none⟩ (.slice none 0 0)) := (hbl4.setCell (show w.heap.size ≤ W.heap.size by omega) _).setCell (show w.heap.size ≤ W.heap.size by omega) _
          have hGF : rowG ((w4.setCell ⟨W.heap.size, 0, none⟩ (.int .i64 0)).setCell ⟨W.heap.size, 1, none⟩ (.slice none 0 0)) _ _ 0 n [] := ownsRow_setCell_other (a := ⟨W.heap.size, 1, none⟩) (ownsRow_setCell_other (a := ⟨W.heap.size, 0, none⟩) hw4 (by first | (simp [Value.ownBlock]; done) | (simp [Value.ownBlock]; omega)) (.int .i64 0)) (by first | (simp [Value.ownBlock]; done) | (simp [Value.ownBlock]; omega)) (.slice none 0 0)
          clear hA hX hR hBo hbl4 hw4
          replace hAF := Lib.hid hAF
          replace hXF := Lib.hid hXF
          replace hRF := Lib.hid hRF
          replace hBF := Lib.hid hBF
          replace hblF := Lib.hid hblF
          replace hGF := Lib.hid hGF
          go_wp2_with fail
          show _ ∧ _
          replace hAF := hAF.out
          replace hXF := hXF.out
          replace hRF := hRF.out
          replace hBF := hBF.out
          replace hblF := hblF.out
          replace hGF := hGF.out
          refine ⟨hXF, ?_⟩
          refine anyS_one 11 (by kernel_rfl) rfl ?_
          go_wp2_with fail
          show _ ∧ _
          refine ⟨hXF, anyS_end (by kernel_rfl) ?_⟩
          have hseq := Lib.hid (hse.trans (searchM_none hsn hgx))
          replace hXF := Lib.hid hXF
          replace hRF := Lib.hid hRF
          replace hBF := Lib.hid hBF
          clear hse hgx hAF hGF
          generalize ((w4.setCell ⟨W.heap.size, 0, none⟩ (.int .i64 0)).setCell ⟨W.heap.size, 1, none⟩ (.slice none 0 0)) = WF at *
          go_wp2
          go_roundw
          case rel => exact ⟨sum + 1, by omega, by omega, rfl, hseq.out, hblF, hXF.out, hRF.out, hBF.out⟩
          case measure => simp [intOf]; omega
      | some r' =>
        obtain ⟨q', vs⟩ := r'
        have CM := Lib.hid (fun G s W (he : s = sum) (hG : B ≠ G) (hb : Bools W B N f) (hr : W.ownsRow G 3 1 (.slice (some ⟨G, 0, none⟩) 0 n) 0 []) => (show Calls Try.prog 75 #[gV n B N, .slice (some ⟨G, 0, none⟩) 0 n, .int .i64 s] W (CompR G G n 0 [] (some (q', vs)) W) by
          subst he
          have := C.out G s W hG (by omega) (by omega) hb hr
          rw [← hg.out, hgx] at this
          exact this))
        go_wp2
        refine wp_region_S (fun W => Blk W w.heap.size 60 #[.int .i64 (n : Nat), .slice (some ⟨B, 0, none⟩) N N]) (by kernel_rfl) ?_
        show wpAnyS _ _ _ _ _ (11 + 1) _ _ _
        replace hbl : Below w.heap.size w wr.drew := hbl.drew
        replace hX : Blk wr.drew w.heap.size 60 #[.int .i64 (n : Nat), .slice (some ⟨B, 0, none⟩) N N] := hX
        replace hR : Blk wr.drew (w.heap.size + 1) 24 #[.int .i64 0, .slice none 0 0] := hR
        replace hBo : Bools wr.drew B N f := hBo
        clear x0 x1 xl
        generalize wr.drew = W at *
        refine anyS_pure 0 (gV n B N) rfl (by kernel_rfl) (by kernel_rfl) (by kernel_rfl) (fun _ _ _ h => h) (by rfl) (fun W hW => by have y0 := hW.c 0 rfl; have y1 := hW.c 1 rfl; go_simp) hX ?_
        refine anyS_pure 1 (.pointer (some ⟨w.heap.size, 0, none⟩)) rfl (by kernel_rfl) (by kernel_rfl) (by kernel_rfl) (fun _ _ _ h => h) (by rfl) (fun W hW => by go_simp) hX ?_
        refine anyS_pure 2 (.int .i64 (n : Nat)) rfl (by kernel_rfl) (by kernel_rfl) (by kernel_rfl) (fun _ _ _ h => h) (by rfl) (fun W hW => by have y0 := hW.c 0 rfl; go_simp) hX ?_
        refine anyS_pure 4 (.int .i64 sum) rfl (by kernel_rfl) (by kernel_rfl) (by kernel_rfl) (fun _ _ _ h => h) (by rfl) (fun W hW => by go_simp) hX ?_
        try simp only [Act.put, List.setIfInBounds_toArray]
        refine anyS_two 3 9 (by kernel_rfl) rfl rfl ?_ ?_
        · refine wpList_make_own (W) rfl _ _ 22 rfl (W.heap.size) 3 i0 (.int .i64 0) 1 Try.underlying22 H0.out H1.out H2.out .i64 .i64 n n rfl rfl rfl (by rw [H3.out]; omega) (by unfold maxLen; omega) (by first | exact Nat.le_refl _ | (simp; done)) ?_
          intro w2 hG hg2
          show _ ∧ _
          replace hG : w2.ownsRow (W.heap.size) 3 1 (.slice (some ⟨W.heap.size, 0, none⟩) 0 n) 0 [] := by first | exact hG | simpa using hG
          have hWle : W.heap.size < w2.heap.size := (hG.lt _ rfl).2
          have hGA : w.heap.size + 1 < W.heap.size := by
            have h9 := hR.lt
            (try simp at h9)
            omega
          have hbl2 := Below.grown hbl hg2 (by have := hbl.size; (try simp); (try simp at this); omega) (fun k hk => by cases hk)
          replace hX := hX.grown hg2 (by simp)
          replace hR := hR.grown hg2 (by simp)
          replace hBo := hBo.grown hg2 (by simp)
          refine ⟨hX, ?_⟩
          try simp only [Act.put]
          refine anyS_two 5 9 (by kernel_rfl) rfl rfl ?_ ?_
          · go_wp2_with (go_at_call 75; refine (CM.out (W.heap.size) sum w2 rfl (by omega) hBo hG).mono ?_; rintro e w4 ⟨hg4, rfl, hw4⟩)
            show _ ∧ _
            have hbl4 := Below.grown hbl2 hg4 (by have := hbl2.size; omega) (fun k hk => by cases hk; (try simp); omega)
            replace hX := hX.grown hg4 (by first | (simp; done) | (simp; omega))
            replace hR := hR.grown hg4 (by first | (simp; done) | (simp; omega))
            replace hBo := hBo.grown hg4 (by first | (simp; done) | (simp; omega))
            refine ⟨hX, ?_⟩
            try simp only [Act.put, List.setIfInBounds_toArray, List.set_cons_zero, List.set_cons_succ]
            refine anyS_pure 6 (bodyB q' (.slice (some ⟨W.heap.size, 0, none⟩) n n) true) rfl (by kernel_rfl) (by kernel_rfl) (by kernel_rfl) (fun _ _ _ h => h) (by rfl) (fun w _ => by go_simp) hX ?_
            refine anyS_pure 7 (.agg #[.int .i64 q', .slice (some ⟨W.heap.size, 0, none⟩) n n]) rfl (by kernel_rfl) (by kernel_rfl) (by kernel_rfl) (fun _ _ _ h => h) (by rfl) (fun w _ => by go_simp) hX ?_
            refine anyS_pure 8 (.bool true) rfl (by kernel_rfl) (by kernel_rfl) (by kernel_rfl) (fun _ _ _ h => h) (by rfl) (fun w _ => by go_simp) hX ?_
            try simp only [Act.put, List.setIfInBounds_toArray]
            refine anyS_one 9 (by kernel_rfl) rfl ?_
            go_wp2_with fail
            show _ ∧ _
            refine ⟨hX.alloc _, ?_⟩
            try simp only [Act.put, List.setIfInBounds_toArray, List.set_cons_zero, List.set_cons_succ]
            refine anyS_one 10 (by kernel_rfl) rfl ?_
            have hAF := Blk.new w4 24 #[.int .i64 q', .slice (some ⟨W.heap.size, 0, none⟩) n n]
            have hXF := hX.alloc (.cells #[.int .i64 q', .slice (some ⟨W.heap.size, 0, none⟩) n n] 24)
            have hRF := hR.alloc (.cells #[.int .i64 q', .slice (some ⟨W.heap.size, 0, none⟩) n n] 24)
            have hBF := hBo.next (b1 w4 (.cells #[.int .i64 q', .slice (some ⟨W.heap.size, 0, none⟩) n n] 24))
            have hblF := hbl4.alloc hbl4.size (.cells #[.int .i64 q', .slice (some ⟨W.heap.size, 0, none⟩) n n] 24)
            have hGF := owns_next hw4 (b1 w4 (.cells #[.int .i64 q', .slice (some ⟨W.heap.size, 0, none⟩) n n] 24))
            clear hX hR hBo hbl4 hw4
            replace hAF := Lib.hid hAF
            replace hXF := Lib.hid hXF
            replace hRF := Lib.hid hRF
            replace hBF := Lib.hid hBF
            replace hblF := Lib.hid hblF
            replace hGF := Lib.hid hGF
            go_wp2_with fail
            show _ ∧ _
            replace hAF := hAF.out
            replace hXF := hXF.out
            replace hRF := hRF.out
            replace hBF := hBF.out
            replace hblF := hblF.out
            replace hGF := hGF.out
            refine ⟨hXF, ?_⟩
            refine anyS_one 11 (by kernel_rfl) rfl ?_
            go_wp2_with fail
            show _ ∧ _
            refine ⟨hXF, anyS_end (by kernel_rfl) ?_⟩
            have r0 := hRF.c 0 rfl
            have r1 := hRF.c 1 rfl
            have rl := hRF.lt
            have f0 := hRF.fr 0
            have f1 := hRF.fr 1
            have a0 := hAF.c 0 rfl
            have a1 := hAF.c 1 rfl
            have hS := hRF.set2 (.int .i64 q') (.slice (some ⟨W.heap.size, 0, none⟩) n n)
            have s0 := hS.c 0 rfl
            have s1 := hS.c 1 rfl
            obtain ⟨hvl, hvI⟩ := rowG_ints hGF
            replace hS := Lib.hid hS
            replace hXF := Lib.hid hXF
            replace hRF := Lib.hid hRF
            replace hAF := Lib.hid hAF
            replace hvl := Lib.hid hvl
            replace hGF := Lib.hid hGF
            generalize w4.alloc (.cells #[.int .i64 q', .slice (some ⟨W.heap.size, 0, none⟩) n n] 24) = WF at *
            go_wp2
            refine bodyPost_ret (v := bodyB q' (.slice (some ⟨W.heap.size, 0, none⟩) n n) true) (by simp [results, Try.results61, go_sem, s0, s1]) rfl ?_
            rw [hlm.out, hse, searchM_some hsn hgx]
            refine ⟨(hblF.setCell (Nat.le_succ _) _).setCell (Nat.le_succ _) _, W.heap.size, rfl, by omega, hvl.out, ?_⟩
            exact (rowG_ints (ownsRow_setCell_other (ownsRow_setCell_other hGF.out (by first | (simp [Value.ownBlock]; done) | (simp [Value.ownBlock]; omega)) _) (by first | (simp [Value.ownBlock]; done) | (simp [Value.ownBlock]; omega)) _)).2
          · go_wp2_with fail
            show _ ∧ _
            have hA : Blk ((w2).alloc (.cells #[.int .i64 0, .slice none 0 0] 24)) (w2.heap.size) 24 #[.int .i64 0, .slice none 0 0] := by
              have h9 := Blk.new (w2) 24 #[.int .i64 0, .slice none 0 0]
              first | exact h9 | simpa using h9
            have hAl : w.heap.size + 1 < w2.heap.size := by
              have h9 := hR.lt
              (try simp at h9)
              omega
            replace hX := hX.alloc (.cells #[.int .i64 0, .slice none 0 0] 24)
            replace hR := hR.alloc (.cells #[.int .i64 0, .slice none 0 0] 24)
            replace hBo := hBo.next (b1 (w2) (.cells #[.int .i64 0, .slice none 0 0] 24))
            replace hbl2 := hbl2.alloc (hbl2.size) (.cells #[.int .i64 0, .slice none 0 0] 24)
            replace hG := owns_next hG (b1 w2 (.cells #[.int .i64 0, .slice none 0 0] 24))
            refine ⟨hX, ?_⟩
            try simp only [Act.put, List.setIfInBounds_toArray, List.set_cons_zero, List.set_cons_succ]
            refine anyS_one 5 (by kernel_rfl) rfl ?_
            go_wp2_with (go_at_call 75; refine (CM.out (W.heap.size) sum (w2.alloc (.cells #[.int .i64 0, .slice none 0 0] 24)) rfl (by omega) hBo hG).mono ?_; rintro e w4 ⟨hg4, rfl, hw4⟩)
            show _ ∧ _
            have hbl4 := Below.grown hbl2 hg4 (by have := hbl2.size; omega) (fun k hk => by cases hk; (try simp); omega)
            replace hX := hX.grown hg4 (by first | (simp; done) | (simp; omega))
            replace hR := hR.grown hg4 (by first | (simp; done) | (simp; omega))
            replace hBo := hBo.grown hg4 (by first | (simp; done) | (simp; omega))
            replace hA := hA.grown hg4 (by first | (simp; done) | (simp; omega))
            refine ⟨hX, ?_⟩
            try simp only [Act.put, List.setIfInBounds_toArray, List.set_cons_zero, List.set_cons_succ]
            refine anyS_pure 6 (bodyB q' (.slice (some ⟨W.heap.size, 0, none⟩) n n) true) rfl (by kernel_rfl) (by kernel_rfl) (by kernel_rfl) (fun _ _ _ h => h) (by rfl) (fun w _ => by go_simp) hX ?_
            refine anyS_pure 7 (.agg #[.int .i64 q', .slice (some ⟨W.heap.size, 0, none⟩) n n]) rfl (by kernel_rfl) (by kernel_rfl) (by kernel_rfl) (fun _ _ _ h => h) (by rfl) (fun w _ => by go_simp) hX ?_
            refine anyS_pure 8 (.bool true) rfl (by kernel_rfl) (by kernel_rfl) (by kernel_rfl) (fun _ _ _ h => h) (by rfl) (fun w _ => by go_simp) hX ?_
            try simp only [Act.put, List.setIfInBounds_toArray]
            refine anyS_one 10 (by kernel_rfl) rfl ?_
            have a0 := hA.c 0 rfl
            have a1 := hA.c 1 rfl
            have af0 := hA.fr 0
            have af1 := hA.fr 1
            have al := hA.lt
            have hAF := hA.set2 (.int .i64 q') (.slice (some ⟨W.heap.size, 0, none⟩) n n)
            have hXF := (hX.other (B' := w2.heap.size) (i := 0) (by omega) (.int .i64 q')).other (B' := w2.heap.size) (i := 1) (by omega) (.slice (some ⟨W.heap.size, 0, none⟩) n n)
            have hRF := (hR.other (B' := w2.heap.size) (i := 0) (by omega) (.int .i64 q')).other (B' := w2.heap.size) (i := 1) (by omega) (.slice (some ⟨W.heap.size, 0, none⟩) n n)
            have hBF := (hBo.other (B' := w2.heap.size) (i := 0) (by omega) (.int .i64 q')).other (B' := w2.heap.size) (i := 1) (by omega) (.slice (some ⟨W.heap.size, 0, none⟩) n n)
            have hblF : Below w.heap.size w ((w4.setCell ⟨w2.heap.size, 0, none⟩ (.int .i64 q')).setCell ⟨w2.heap.size, 1, none⟩ (.slice (some ⟨W.heap.size, 0, none⟩) n n)) := (hbl4.setCell (show w.heap.size ≤ w2.heap.size by omega) _).setCell (show w.heap.size ≤ w2.heap.size by omega) _
            have hGF : rowG ((w4.setCell ⟨w2.heap.size, 0, none⟩ (.int .i64 q')).setCell ⟨w2.heap.size, 1, none⟩ (.slice (some ⟨W.heap.size, 0, none⟩) n n)) _ _ n n vs := ownsRow_setCell_other (a := ⟨w2.heap.size, 1, none⟩) (ownsRow_setCell_other (a := ⟨w2.heap.size, 0, none⟩) hw4 (by first | (simp [Value.ownBlock]; done) | (simp [Value.ownBlock]; omega)) (.int .i64 q')) (by first | (simp [Value.ownBlock]; done) | (simp [Value.ownBlock]; omega)) (.slice (some ⟨W.heap.size, 0, none⟩) n n)
            clear hA hX hR hBo hbl4 hw4
            replace hAF := Lib.hid hAF
            replace hXF := Lib.hid hXF
            replace hRF := Lib.hid hRF
            replace hBF := Lib.hid hBF
            replace hblF := Lib.hid hblF
            replace hGF := Lib.hid hGF
            go_wp2_with fail
            show _ ∧ _
            replace hAF := hAF.out
            replace hXF := hXF.out
            replace hRF := hRF.out
            replace hBF := hBF.out
            replace hblF := hblF.out
            replace hGF := hGF.out
            refine ⟨hXF, ?_⟩
            refine anyS_one 11 (by kernel_rfl) rfl ?_
            go_wp2_with fail
            show _ ∧ _
            refine ⟨hXF, anyS_end (by kernel_rfl) ?_⟩
            have r0 := hRF.c 0 rfl
            have r1 := hRF.c 1 rfl
            have rl := hRF.lt
            have f0 := hRF.fr 0
            have f1 := hRF.fr 1
            have a0 := hAF.c 0 rfl
            have a1 := hAF.c 1 rfl
            have hS := hRF.set2 (.int .i64 q') (.slice (some ⟨W.heap.size, 0, none⟩) n n)
            have s0 := hS.c 0 rfl
            have s1 := hS.c 1 rfl
            obtain ⟨hvl, hvI⟩ := rowG_ints hGF
            replace hS := Lib.hid hS
            replace hXF := Lib.hid hXF
            replace hRF := Lib.hid hRF
            replace hAF := Lib.hid hAF
            replace hvl := Lib.hid hvl
            replace hGF := Lib.hid hGF
            generalize ((w4.setCell ⟨w2.heap.size, 0, none⟩ (.int .i64 q')).setCell ⟨w2.heap.size, 1, none⟩ (.slice (some ⟨W.heap.size, 0, none⟩) n n)) = WF at *
            go_wp2
            refine bodyPost_ret (v := bodyB q' (.slice (some ⟨W.heap.size, 0, none⟩) n n) true) (by simp [results, Try.results61, go_sem, s0, s1]) rfl ?_
            rw [hlm.out, hse, searchM_some hsn hgx]
            refine ⟨(hblF.setCell (Nat.le_succ _) _).setCell (Nat.le_succ _) _, W.heap.size, rfl, by omega, hvl.out, ?_⟩
            exact (rowG_ints (ownsRow_setCell_other (ownsRow_setCell_other hGF.out (by first | (simp [Value.ownBlock]; done) | (simp [Value.ownBlock]; omega)) _) (by first | (simp [Value.ownBlock]; done) | (simp [Value.ownBlock]; omega)) _)).2
        · go_wp2_with fail
          show _ ∧ _
          have hA : Blk ((W).alloc (.cells #[.int .i64 0, .slice none 0 0] 24)) (W.heap.size) 24 #[.int .i64 0, .slice none 0 0] := by
            have h9 := Blk.new (W) 24 #[.int .i64 0, .slice none 0 0]
            first | exact h9 | simpa using h9
          have hAl : w.heap.size + 1 < W.heap.size := by
            have h9 := hR.lt
            (try simp at h9)
            omega
          replace hX := hX.alloc (.cells #[.int .i64 0, .slice none 0 0] 24)
          replace hR := hR.alloc (.cells #[.int .i64 0, .slice none 0 0] 24)
          replace hBo := hBo.next (b1 (W) (.cells #[.int .i64 0, .slice none 0 0] 24))
          replace hbl := hbl.alloc (hbl.size) (.cells #[.int .i64 0, .slice none 0 0] 24)
          refine ⟨hX, ?_⟩
          try simp only [Act.put, List.setIfInBounds_toArray, List.set_cons_zero, List.set_cons_succ]
          refine anyS_one 3 (by kernel_rfl) rfl ?_
          refine wpList_make_own (W.alloc (.cells #[.int .i64 0, .slice none 0 0] 24)) rfl _ _ 22 rfl (W.heap.size + 1) 3 i0 (.int .i64 0) 1 Try.underlying22 H0.out H1.out H2.out .i64 .i64 n n rfl rfl rfl (by rw [H3.out]; omega) (by unfold maxLen; omega) (by first | exact Nat.le_refl _ | (simp; done)) ?_
          intro w2 hG hg2
          show _ ∧ _
          replace hG : w2.ownsRow (W.heap.size + 1) 3 1 (.slice (some ⟨W.heap.size + 1, 0, none⟩) 0 n) 0 [] := by first | exact hG | simpa using hG
          have hWle : W.heap.size + 1 < w2.heap.size := (hG.lt _ rfl).2
          have hGA : w.heap.size + 1 < W.heap.size + 1 := by
            have h9 := hR.lt
            (try simp at h9)
            omega
          have hbl2 := Below.grown hbl hg2 (by have := hbl.size; (try simp); (try simp at this); omega) (fun k hk => by cases hk)
          replace hX := hX.grown hg2 (by simp)
          replace hR := hR.grown hg2 (by simp)
          replace hBo := hBo.grown hg2 (by simp)
          replace hA := hA.grown hg2 (by simp)
          refine ⟨hX, ?_⟩
          try simp only [Act.put, List.setIfInBounds_toArray]
          refine anyS_one 5 (by kernel_rfl) rfl ?_
          go_wp2_with (go_at_call 75; refine (CM.out (W.heap.size + 1) sum w2 rfl (by omega) hBo hG).mono ?_; rintro e w4 ⟨hg4, rfl, hw4⟩)
          show _ ∧ _
          have hbl4 := Below.grown hbl2 hg4 (by have := hbl2.size; omega) (fun k hk => by cases hk; (try simp); omega)
          replace hX := hX.grown hg4 (by first | (simp; done) | (simp; omega))
          replace hR := hR.grown hg4 (by first | (simp; done) | (simp; omega))
          replace hBo := hBo.grown hg4 (by first | (simp; done) | (simp; omega))
          replace hA := hA.grown hg4 (by first | (simp; done) | (simp; omega))
          refine ⟨hX, ?_⟩
          try simp only [Act.put, List.setIfInBounds_toArray, List.set_cons_zero, List.set_cons_succ]
          refine anyS_pure 6 (bodyB q' (.slice (some ⟨W.heap.size + 1, 0, none⟩) n n) true) rfl (by kernel_rfl) (by kernel_rfl) (by kernel_rfl) (fun _ _ _ h => h) (by rfl) (fun w _ => by go_simp) hX ?_
          refine anyS_pure 7 (.agg #[.int .i64 q', .slice (some ⟨W.heap.size + 1, 0, none⟩) n n]) rfl (by kernel_rfl) (by kernel_rfl) (by kernel_rfl) (fun _ _ _ h => h) (by rfl) (fun w _ => by go_simp) hX ?_
          refine anyS_pure 8 (.bool true) rfl (by kernel_rfl) (by kernel_rfl) (by kernel_rfl) (fun _ _ _ h => h) (by rfl) (fun w _ => by go_simp) hX ?_
          try simp only [Act.put, List.setIfInBounds_toArray]
          refine anyS_one 10 (by kernel_rfl) rfl ?_
          have a0 := hA.c 0 rfl
          have a1 := hA.c 1 rfl
          have af0 := hA.fr 0
          have af1 := hA.fr 1
          have al := hA.lt
          have hAF := hA.set2 (.int .i64 q') (.slice (some ⟨W.heap.size + 1, 0, none⟩) n n)
          have hXF := (hX.other (B' := W.heap.size) (i := 0) (by omega) (.int .i64 q')).other (B' := W.heap.size) (i := 1) (by omega) (.slice (some ⟨W.heap.size + 1, 0, none⟩) n n)
          have hRF := (hR.other (B' := W.heap.size) (i := 0) (by omega) (.int .i64 q')).other (B' := W.heap.size) (i := 1) (by omega) (.slice (some ⟨W.heap.size + 1, 0, none⟩) n n)
          have hBF := (hBo.other (B' := W.heap.size) (i := 0) (by omega) (.int .i64 q')).other (B' := W.heap.size) (i := 1) (by omega) (.slice (some ⟨W.heap.size + 1, 0, none⟩) n n)
          have hblF : Below w.heap.size w ((w4.setCell ⟨W.heap.size, 0, none⟩ (.int .i64 q')).setCell ⟨W.heap.size, 1, none⟩ (.slice (some ⟨W.heap.size + 1, 0, none⟩) n n)) := (hbl4.setCell (show w.heap.size ≤ W.heap.size by omega) _).setCell (show w.heap.size ≤ W.heap.size by omega) _
          have hGF : rowG ((w4.setCell ⟨W.heap.size, 0, none⟩ (.int .i64 q')).setCell ⟨W.heap.size, 1, none⟩ (.slice (some ⟨W.heap.size + 1, 0, none⟩) n n)) _ _ n n vs := ownsRow_setCell_other (a := ⟨W.heap.size, 1, none⟩) (ownsRow_setCell_other (a := ⟨W.heap.size, 0, none⟩) hw4 (by first | (simp [Value.ownBlock]; done) | (simp [Value.ownBlock]; omega)) (.int .i64 q')) (by first | (simp [Value.ownBlock]; done) | (simp [Value.ownBlock]; omega)) (.slice (some ⟨W.heap.size + 1, 0, none⟩) n n)
          clear hA hX hR hBo hbl4 hw4
          replace hAF := Lib.hid hAF
          replace hXF := Lib.hid hXF
          replace hRF := Lib.hid hRF
          replace hBF := Lib.hid hBF
          replace hblF := Lib.hid hblF
          replace hGF := Lib.hid hGF
          go_wp2_with fail
          show _ ∧ _
          replace hAF := hAF.out
          replace hXF := hXF.out
          replace hRF := hRF.out
          replace hBF := hBF.out
          replace hblF := hblF.out
          replace hGF := hGF.out
          refine ⟨hXF, ?_⟩
          refine anyS_one 11 (by kernel_rfl) rfl ?_
          go_wp2_with fail
          show _ ∧ _
          refine ⟨hXF, anyS_end (by kernel_rfl) ?_⟩
          have r0 := hRF.c 0 rfl
          have r1 := hRF.c 1 rfl
          have rl := hRF.lt
          have f0 := hRF.fr 0
          have f1 := hRF.fr 1
          have a0 := hAF.c 0 rfl
          have a1 := hAF.c 1 rfl
          have hS := hRF.set2 (.int .i64 q') (.slice (some ⟨W.heap.size + 1, 0, none⟩) n n)
          have s0 := hS.c 0 rfl
          have s1 := hS.c 1 rfl
          obtain ⟨hvl, hvI⟩ := rowG_ints hGF
          replace hS := Lib.hid hS
          replace hXF := Lib.hid hXF
          replace hRF := Lib.hid hRF
          replace hAF := Lib.hid hAF
          replace hvl := Lib.hid hvl
          replace hGF := Lib.hid hGF
          generalize ((w4.setCell ⟨W.heap.size, 0, none⟩ (.int .i64 q')).setCell ⟨W.heap.size, 1, none⟩ (.slice (some ⟨W.heap.size + 1, 0, none⟩) n n)) = WF at *
          go_wp2
          refine bodyPost_ret (v := bodyB q' (.slice (some ⟨W.heap.size + 1, 0, none⟩) n n) true) (by simp [results, Try.results61, go_sem, s0, s1]) rfl ?_
          rw [hlm.out, hse, searchM_some hsn hgx]
          refine ⟨(hblF.setCell (Nat.le_succ _) _).setCell (Nat.le_succ _) _, W.heap.size + 1, rfl, by omega, hvl.out, ?_⟩
          exact (rowG_ints (ownsRow_setCell_other (ownsRow_setCell_other hGF.out (by first | (simp [Value.ownBlock]; done) | (simp [Value.ownBlock]; omega)) _) (by first | (simp [Value.ownBlock]; done) | (simp [Value.ownBlock]; omega)) _)).2
    · have hxe : (n : Int) * 9 < sum := by omega
      have r0 := hR.c 0 rfl
      have r1 := hR.c 1 rfl
      have rl := hR.lt
      have f0 := hR.fr 0
      have f1 := hR.fr 1
      have hS := hR.set2 (.int .i64 0) (.slice none 0 0)
      have s0 := hS.c 0 rfl
      have s1 := hS.c 1 rfl
      replace hS := Lib.hid hS
      replace hX := Lib.hid hX
      replace hR := Lib.hid hR
      go_wp2
      refine bodyPost_ret (v := bodyB 0 (.slice none 0 0) false) (by simp [results, Try.results61, go_sem, s0, s1]) rfl ?_
      rw [hlm.out, hse, searchM_over hxe]
      exact ⟨(hbl.setCell (Nat.le_succ _) _).setCell (Nat.le_succ _) _, rfl⟩
end Go.Proofs.Ytnnndooagpkgmaa
