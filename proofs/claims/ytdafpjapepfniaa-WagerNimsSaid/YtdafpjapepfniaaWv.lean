/- Layer 7, by the program: First. -/
import Derived.Test.YtdafpjapepfniaaWu
namespace Go.Proofs.Ytdafpjapepfniaa
set_option linter.unusedSimpArgs false
set_option linter.unusedVariables false
open Go Go.RowKit

theorem below_grown' {w a b : World} {G : Nat} (h : Below w.heap.size w a) (hg : a.grownBy b (some G)) (hG : w.heap.size ≤ G) : Below w.heap.size w b :=
  h.trans (below_grown hg h.size hG)
set_option maxRecDepth 100000 in
set_option maxHeartbeats 4000000 in
theorem First_yes (R C : Nat) (w : World) (h1 : 1 ≤ R) (hR : R ≤ 6) (h1' : 1 ≤ C) (hC7 : C ≤ 7) (h24 : R * C ≤ 24) : Calls Try.prog 34 #[.int .i64 (R : Int), .int .i64 (C : Int)] w (Ret (firV (fuF R C)) w) := by
  have S := fun W => sizeError_any (R : Int) (C : Int) W
  have hE : szE (R : Int) (C : Int) = 0 := by
    unfold szE
    rw [if_neg (by omega), if_neg (by rw [← Int.natCast_mul]; omega)]
  rw [hE] at S
  replace S := Lib.hid S
  have hF := Lib.hid (fun W => fullBar_any R C W hR hC7)
  have hf := fuF_isB (R := R) (C := C) hR hC7
  clear hE h24 h1 h1' hR hC7
  generalize fuF R C = f at *
  have hO := Lib.hid (chO_head hf)
  have hf := Lib.hid hf
  have hmem : Hid (∀ p, (winP f).head? = some p → p.1 < 6 ∧ p.2 < f p.1) := Lib.hid (fun p hp => by
    have := List.mem_of_mem_head? hp
    exact mem_piF.1 (List.mem_filter.1 this).1)
  unfold firV
  obtain ⟨o, ho⟩ : ∃ o, Hid ((winP f).head? = o) := ⟨_, Lib.hid rfl⟩
  rw [ho.out] at hO hmem ⊢
  obtain ⟨X, hX⟩ : ∃ X, Hid ((chO f).getD h0 = X) := ⟨_, Lib.hid rfl⟩
  obtain ⟨yb, hY⟩ : ∃ yb, Hid ((chO f).isSome = yb) := ⟨_, Lib.hid rfl⟩
  have hBest : Hid (∀ (n₀ Bm B1 B2 : Nat) (hA : AtC n₀ Bm B1 B2) (A : World), InvC n₀ Bm B1 B2 A → Calls Try.prog 48 #[.agg (chC B1 B2), hV (barH f)] A fun e w' => e = .returned (.tuple #[hV X, .bool yb]) ∧ A.grownBy w' (some Bm)) :=
    Lib.hid (fun n₀ Bm B1 B2 hA A hi => (chBest_any n₀ Bm B1 B2 hA f hf.out A hi).mono fun e w' ⟨h1, h2, _⟩ => ⟨by rw [h1, hX.out, hY.out], h2⟩)
  go_enter Try.func34, Try.ntmps34
  go_wp2_with (first
    | (go_at_call 67; refine (S.out _).mono ?_; rintro e w1 ⟨rfl, rfl⟩)
    | (go_at_call 69; refine (hF.out _).mono ?_; rintro e w1 ⟨rfl, hb1⟩))
  have k8 := Blk.new w1 60 (hC (barH f))
  have hb2 := nextB hb1 (b1 w1 (.cells (hC (barH f)) 60))
  obtain ⟨b, hbb⟩ : ∃ b, Hid (w1.heap.size = b) := ⟨_, Lib.hid rfl⟩
  rw [hbb.out] at k8 ⊢
  generalize w1.alloc (.cells (hC (barH f)) 60) = w2 at *
  clear hb1 hbb
  refine wp_region_S (fun W => Blk W b 60 (hC (barH f)) ∧ Below w.heap.size w W) (by kernel_rfl) ?_
  show wpAnyS _ _ _ _ _ (8 + 1) _ _ _
  replace k8 : Blk w2.drew b 60 (hC (barH f)) := k8
  replace hb2 : Below w.heap.size w w2.drew := hb2.drew
  generalize w2.drew = w2 at *
  refine anyS_pure 1 (hV (barH f)) rfl (by kernel_rfl) (by kernel_rfl) (by kernel_rfl) (fun _ _ _ h => h) (by rfl) (fun W hW => by obtain ⟨c0, c1, c2, c3, c4, c5, c6⟩ := hW.1.c7; go_simp) ⟨k8, hb2⟩ ?_
  try simp only [Act.put, List.setIfInBounds_toArray, List.set_cons_zero, List.set_cons_succ]
  refine anyS_two 0 6 (by kernel_rfl) rfl rfl ?_ ?_
  · have hbl := k8.lt
    have hws := hb2.size
    go_wp2_with (go_at_call 56; refine (chomp_any _).mono ?_; rintro e w3 ⟨Bm, B1, B2, rfl, hA, hI, hb3, hBm⟩)
    show _ ∧ _
    have k83 := k8.ext hb3
    have hb23 := nextB hb2 hb3
    refine ⟨⟨k83, hb23⟩, ?_⟩
    try simp only [Act.put, List.setIfInBounds_toArray, List.set_cons_zero, List.set_cons_succ]
    refine anyS_two 2 6 (by kernel_rfl) rfl rfl ?_ ?_
    · go_wp2_with (go_at_call 48; refine (hBest.out _ Bm B1 B2 hA _ hI).mono ?_; rintro e w4 ⟨rfl, hg4⟩)
      show _ ∧ _
      have hbn : some b ≠ some Bm := fun e => by cases e; omega
      have k84 := blk_grown k83 hg4 hbn
      have hb24 := below_grown' hb23 hg4 (by omega)
      have hs24 := hb24.size
      refine ⟨⟨k84, hb24⟩, ?_⟩
      try simp only [Act.put, List.setIfInBounds_toArray, List.set_cons_zero, List.set_cons_succ]
      refine anyS_pure 3 (.tuple #[hV X, .bool yb]) rfl (by kernel_rfl) (by kernel_rfl) (by kernel_rfl) (fun _ _ _ h => h) (by rfl) (fun w _ => by go_simp) ⟨k84, hb24⟩ ?_
      try simp only [Act.put, List.setIfInBounds_toArray, List.set_cons_zero, List.set_cons_succ]
      refine anyS_pure 4 (hV X) rfl (by kernel_rfl) (by kernel_rfl) (by kernel_rfl) (fun _ _ _ h => h) (by rfl) (fun w _ => by go_simp) ⟨k84, hb24⟩ ?_
      try simp only [Act.put, List.setIfInBounds_toArray, List.set_cons_zero, List.set_cons_succ]
      refine anyS_pure 5 (.bool yb) rfl (by kernel_rfl) (by kernel_rfl) (by kernel_rfl) (fun _ _ _ h => h) (by rfl) (fun w _ => by go_simp) ⟨k84, hb24⟩ ?_
      try simp only [Act.put, List.setIfInBounds_toArray, List.set_cons_zero, List.set_cons_succ]
      refine anyS_one 6 (by kernel_rfl) rfl ?_
      go_wp2_with fail
      show _ ∧ _
      refine ⟨⟨k84.alloc _, hb24.alloc hs24 _⟩, ?_⟩
      try simp only [Act.put, List.setIfInBounds_toArray, List.set_cons_zero, List.set_cons_succ]
      refine anyS_one 7 (by kernel_rfl) rfl ?_
      go_wp2_with fail
      show _ ∧ _
      have F1 := k84.alloc (.cells (hC X) 60)
      have F2 := hb24.alloc hs24 (.cells (hC X) 60)
      have F3 := Blk.new w4 60 (hC X)
      refine ⟨⟨F1, F2⟩, ?_⟩
      generalize w4.alloc (.cells (hC X) 60) = W at *
      obtain ⟨b9, hb9⟩ : ∃ b9, Hid (w4.heap.size = b9) := ⟨_, Lib.hid rfl⟩
      rw [hb9.out] at F3 ⊢
      try simp only [Act.put, List.setIfInBounds_toArray, List.set_cons_zero, List.set_cons_succ]
      refine anyS_one 8 (by kernel_rfl) rfl ?_
      go_wp2_with fail
      show _ ∧ _
      refine ⟨⟨F1, F2⟩, ?_⟩
      try simp only [Act.put, List.setIfInBounds_toArray, List.set_cons_zero, List.set_cons_succ]
      refine anyS_end (by kernel_rfl) ?_
      obtain ⟨x0, x1, x2, x3, x4, x5, x6⟩ := F1.c7
      have F1 := Lib.hid F1
      have F2 := Lib.hid F2
      cases o with
      | none =>
        have hy : yb = false := by rw [← hY.out, hO.out]; rfl
        subst hy
        clear F3
        try dsimp only
        go_wp2
        go_ret3
        exact Ret.mk rfl F2.out
      | some p =>
        obtain ⟨p1, p2⟩ := p
        have hy : yb = true := by rw [← hY.out, hO.out]; rfl
        have hx : X = barH (woF f p1 p2) := by rw [← hX.out, hO.out]; rfl
        subst hy hx
        have hm := hmem.out _ rfl
        have T := Lib.hid (fun W => taken_any f p1 p2 W hf.out hm.1 hm.2)
        clear hm
        obtain ⟨y0, y1, y2, y3, y4, y5, y6⟩ := F3.c7
        have F3 := Lib.hid F3
        try dsimp only
        generalize woF f p1 p2 = g at *
        go_wp2_with (go_at_call 58; refine (T.out _).mono ?_; rintro e w7 ⟨rfl, hb7⟩)
        have hbx := Blk.new w7 38 #[.int .i64 (p1 : Int), .int .i64 (p2 : Int)]
        have u0 := cellX (hbx.c 0 rfl)
        have u1 := cellX (hbx.c 1 rfl)
        clear x0 x1 x2 x3 x4 x5 x6 y0 y1 y2 y3 y4 y5 y6
        refine wp_region_ext (by kernel_rfl) (by kernel_rfl) ?_
        repeat (go_big_quiet_step (fail))
        refine wpQuiet_nil ?_
        rintro ⟨w8, hw8⟩
        try dsimp only
        go_wp2
        go_ret3
        exact Ret.mk rfl (nextB (nextB (nextB F2.out hb7) (b1 _ _)) hw8)
    · go_wp2_with fail
      show _ ∧ _
      have k85 := k83.alloc (.cells (hC h0) 60)
      have hb25 := hb23.alloc hb23.size (.cells (hC h0) 60)
      refine ⟨⟨k85, hb25⟩, ?_⟩
      have z3 := Blk.new w3 60 (hC h0)
      have hI5 := hI.grown hA (r := none) (fun k e => by cases e) (World.grownBy_alloc w3 (.cells (hC h0) 60) none)
      have hs23 := hb23.size
      have hb3s := hb3.size
      have hlm := hA.lm
      obtain ⟨b9, hb9⟩ : ∃ b9, w3.heap.size = b9 := ⟨_, rfl⟩
      rw [hb9] at z3 hlm hs23 hb3s ⊢
      clear hb9
      try simp only [Act.put, List.setIfInBounds_toArray, List.set_cons_zero, List.set_cons_succ]
      refine anyS_one 2 (by kernel_rfl) rfl ?_
      go_wp2_with (go_at_call 48; refine (hBest.out _ Bm B1 B2 hA _ hI5).mono ?_; rintro e w4 ⟨rfl, hg4⟩)
      show _ ∧ _
      have hbn : some b ≠ some Bm := fun e => by cases e; omega
      have k84 := blk_grown k85 hg4 hbn
      have hb24 := below_grown' hb25 hg4 (by omega)
      have hs24 := hb24.size
      have z9 := blk_grown z3 hg4 (fun e => by cases e; omega)
      refine ⟨⟨k84, hb24⟩, ?_⟩
      try simp only [Act.put, List.setIfInBounds_toArray, List.set_cons_zero, List.set_cons_succ]
      refine anyS_pure 3 (.tuple #[hV X, .bool yb]) rfl (by kernel_rfl) (by kernel_rfl) (by kernel_rfl) (fun _ _ _ h => h) (by rfl) (fun w _ => by go_simp) ⟨k84, hb24⟩ ?_
      try simp only [Act.put, List.setIfInBounds_toArray, List.set_cons_zero, List.set_cons_succ]
      refine anyS_pure 4 (hV X) rfl (by kernel_rfl) (by kernel_rfl) (by kernel_rfl) (fun _ _ _ h => h) (by rfl) (fun w _ => by go_simp) ⟨k84, hb24⟩ ?_
      try simp only [Act.put, List.setIfInBounds_toArray, List.set_cons_zero, List.set_cons_succ]
      refine anyS_pure 5 (.bool yb) rfl (by kernel_rfl) (by kernel_rfl) (by kernel_rfl) (fun _ _ _ h => h) (by rfl) (fun w _ => by go_simp) ⟨k84, hb24⟩ ?_
      try simp only [Act.put, List.setIfInBounds_toArray, List.set_cons_zero, List.set_cons_succ]
      obtain ⟨d0, d1, d2, d3, d4, d5, d6⟩ := z9.c7
      have zf9 := z9.fr
      have F1 := Lib.hid (blk_grown k84 (grown_put7 w4 b9 X) (fun e => by cases e; omega))
      have F2 := Lib.hid (hb24.trans (below_grown (grown_put7 w4 b9 X) hs24 (by omega)))
      have F3 := Lib.hid (blk_set7 z9 X)
      refine anyS_one 7 (by kernel_rfl) rfl ?_
      go_wp2_with fail
      show _ ∧ _
      refine ⟨⟨F1.out, F2.out⟩, ?_⟩
      replace F1 := F1.out
      replace F2 := F2.out
      replace F3 := F3.out
      clear d0 d1 d2 d3 d4 d5 d6 zf9
      obtain ⟨W, hW⟩ : ∃ W, put7 w4 b9 X = W := ⟨_, rfl⟩
      unfold put7 at F1 F2 hW
      rw [hW] at F1 F2 F3 ⊢
      try simp only [Act.put, List.setIfInBounds_toArray, List.set_cons_zero, List.set_cons_succ]
      refine anyS_one 8 (by kernel_rfl) rfl ?_
      go_wp2_with fail
      show _ ∧ _
      refine ⟨⟨F1, F2⟩, ?_⟩
      try simp only [Act.put, List.setIfInBounds_toArray, List.set_cons_zero, List.set_cons_succ]
      refine anyS_end (by kernel_rfl) ?_
      obtain ⟨x0, x1, x2, x3, x4, x5, x6⟩ := F1.c7
      have F1 := Lib.hid F1
      have F2 := Lib.hid F2
      cases o with
      | none =>
        have hy : yb = false := by rw [← hY.out, hO.out]; rfl
        subst hy
        clear F3
        try dsimp only
        go_wp2
        go_ret3
        exact Ret.mk rfl F2.out
      | some p =>
        obtain ⟨p1, p2⟩ := p
        have hy : yb = true := by rw [← hY.out, hO.out]; rfl
        have hx : X = barH (woF f p1 p2) := by rw [← hX.out, hO.out]; rfl
        subst hy hx
        have hm := hmem.out _ rfl
        have T := Lib.hid (fun W => taken_any f p1 p2 W hf.out hm.1 hm.2)
        clear hm
        obtain ⟨y0, y1, y2, y3, y4, y5, y6⟩ := F3.c7
        have F3 := Lib.hid F3
        try dsimp only
        generalize woF f p1 p2 = g at *
        go_wp2_with (go_at_call 58; refine (T.out _).mono ?_; rintro e w7 ⟨rfl, hb7⟩)
        have hbx := Blk.new w7 38 #[.int .i64 (p1 : Int), .int .i64 (p2 : Int)]
        have u0 := cellX (hbx.c 0 rfl)
        have u1 := cellX (hbx.c 1 rfl)
        clear x0 x1 x2 x3 x4 x5 x6 y0 y1 y2 y3 y4 y5 y6
        refine wp_region_ext (by kernel_rfl) (by kernel_rfl) ?_
        repeat (go_big_quiet_step (fail))
        refine wpQuiet_nil ?_
        rintro ⟨w8, hw8⟩
        try dsimp only
        go_wp2
        go_ret3
        exact Ret.mk rfl (nextB (nextB (nextB F2.out hb7) (b1 _ _)) hw8)
  · have hbl := k8.lt
    have hws := hb2.size
    go_wp2_with fail
    show _ ∧ _
    have k85 := k8.alloc (.cells (hC h0) 60)
    have hb25 := hb2.alloc hb2.size (.cells (hC h0) 60)
    refine ⟨⟨k85, hb25⟩, ?_⟩
    have z2 := Blk.new w2 60 (hC h0)
    obtain ⟨b9, hb9⟩ : ∃ b9, w2.heap.size = b9 := ⟨_, rfl⟩
    have hz9 : (w2.alloc (.cells (hC h0) 60)).heap.size = b9 + 1 := by rw [← hb9]; simp
    rw [hb9] at z2 hws hbl ⊢
    clear hb9
    generalize w2.alloc (.cells (hC h0) 60) = w2 at *
    try simp only [Act.put, List.setIfInBounds_toArray, List.set_cons_zero, List.set_cons_succ]
    refine anyS_one 0 (by kernel_rfl) rfl ?_
    go_wp2_with (go_at_call 56; refine (chomp_any _).mono ?_; rintro e w3 ⟨Bm, B1, B2, rfl, hA, hI, hb3, hBm⟩)
    show _ ∧ _
    have k83 := k85.ext hb3
    have hb23 := nextB hb25 hb3
    rw [hz9] at hBm
    have z3 := z2.ext hb3
    refine ⟨⟨k83, hb23⟩, ?_⟩
    try simp only [Act.put, List.setIfInBounds_toArray, List.set_cons_zero, List.set_cons_succ]
    refine anyS_one 2 (by kernel_rfl) rfl ?_
    go_wp2_with (go_at_call 48; refine (hBest.out _ Bm B1 B2 hA _ hI).mono ?_; rintro e w4 ⟨rfl, hg4⟩)
    show _ ∧ _
    have hbn : some b ≠ some Bm := fun e => by cases e; omega
    have k84 := blk_grown k83 hg4 hbn
    have hb24 := below_grown' hb23 hg4 (by omega)
    have hs24 := hb24.size
    have z9 := blk_grown z3 hg4 (fun e => by cases e; omega)
    refine ⟨⟨k84, hb24⟩, ?_⟩
    try simp only [Act.put, List.setIfInBounds_toArray, List.set_cons_zero, List.set_cons_succ]
    refine anyS_pure 3 (.tuple #[hV X, .bool yb]) rfl (by kernel_rfl) (by kernel_rfl) (by kernel_rfl) (fun _ _ _ h => h) (by rfl) (fun w _ => by go_simp) ⟨k84, hb24⟩ ?_
    try simp only [Act.put, List.setIfInBounds_toArray, List.set_cons_zero, List.set_cons_succ]
    refine anyS_pure 4 (hV X) rfl (by kernel_rfl) (by kernel_rfl) (by kernel_rfl) (fun _ _ _ h => h) (by rfl) (fun w _ => by go_simp) ⟨k84, hb24⟩ ?_
    try simp only [Act.put, List.setIfInBounds_toArray, List.set_cons_zero, List.set_cons_succ]
    refine anyS_pure 5 (.bool yb) rfl (by kernel_rfl) (by kernel_rfl) (by kernel_rfl) (fun _ _ _ h => h) (by rfl) (fun w _ => by go_simp) ⟨k84, hb24⟩ ?_
    try simp only [Act.put, List.setIfInBounds_toArray, List.set_cons_zero, List.set_cons_succ]
    obtain ⟨d0, d1, d2, d3, d4, d5, d6⟩ := z9.c7
    have zf9 := z9.fr
    have F1 := Lib.hid (blk_grown k84 (grown_put7 w4 b9 X) (fun e => by cases e; omega))
    have F2 := Lib.hid (hb24.trans (below_grown (grown_put7 w4 b9 X) hs24 (by omega)))
    have F3 := Lib.hid (blk_set7 z9 X)
    refine anyS_one 7 (by kernel_rfl) rfl ?_
    go_wp2_with fail
    show _ ∧ _
    refine ⟨⟨F1.out, F2.out⟩, ?_⟩
    replace F1 := F1.out
    replace F2 := F2.out
    replace F3 := F3.out
    clear d0 d1 d2 d3 d4 d5 d6 zf9
    obtain ⟨W, hW⟩ : ∃ W, put7 w4 b9 X = W := ⟨_, rfl⟩
    unfold put7 at F1 F2 hW
    rw [hW] at F1 F2 F3 ⊢
    try simp only [Act.put, List.setIfInBounds_toArray, List.set_cons_zero, List.set_cons_succ]
    refine anyS_one 8 (by kernel_rfl) rfl ?_
    go_wp2_with fail
    show _ ∧ _
    refine ⟨⟨F1, F2⟩, ?_⟩
    try simp only [Act.put, List.setIfInBounds_toArray, List.set_cons_zero, List.set_cons_succ]
    refine anyS_end (by kernel_rfl) ?_
    obtain ⟨x0, x1, x2, x3, x4, x5, x6⟩ := F1.c7
    have F1 := Lib.hid F1
    have F2 := Lib.hid F2
    cases o with
    | none =>
      have hy : yb = false := by rw [← hY.out, hO.out]; rfl
      subst hy
      clear F3
      try dsimp only
      go_wp2
      go_ret3
      exact Ret.mk rfl F2.out
    | some p =>
      obtain ⟨p1, p2⟩ := p
      have hy : yb = true := by rw [← hY.out, hO.out]; rfl
      have hx : X = barH (woF f p1 p2) := by rw [← hX.out, hO.out]; rfl
      subst hy hx
      have hm := hmem.out _ rfl
      have T := Lib.hid (fun W => taken_any f p1 p2 W hf.out hm.1 hm.2)
      clear hm
      obtain ⟨y0, y1, y2, y3, y4, y5, y6⟩ := F3.c7
      have F3 := Lib.hid F3
      try dsimp only
      generalize woF f p1 p2 = g at *
      go_wp2_with (go_at_call 58; refine (T.out _).mono ?_; rintro e w7 ⟨rfl, hb7⟩)
      have hbx := Blk.new w7 38 #[.int .i64 (p1 : Int), .int .i64 (p2 : Int)]
      have u0 := cellX (hbx.c 0 rfl)
      have u1 := cellX (hbx.c 1 rfl)
      clear x0 x1 x2 x3 x4 x5 x6 y0 y1 y2 y3 y4 y5 y6
      refine wp_region_ext (by kernel_rfl) (by kernel_rfl) ?_
      repeat (go_big_quiet_step (fail))
      refine wpQuiet_nil ?_
      rintro ⟨w8, hw8⟩
      try dsimp only
      go_wp2
      go_ret3
      exact Ret.mk rfl (nextB (nextB (nextB F2.out hb7) (b1 _ _)) hw8)
end Go.Proofs.Ytdafpjapepfniaa
