/- Layer 3, by the program: weights are completed. -/
import Derived.Test.YtnnndooagpkgmaaVr
import Derived.Lib.MinMax
namespace Go.Proofs.Ytnnndooagpkgmaa
open Go Go.RowKit

/-- The first of some numbers, from x on, for which g has a result. -/
def searchM {α : Type} (g : Int → Option α) (x : Int) : Nat → Option α
  | 0 => none
  | m + 1 => match g x with
    | some r => some r
    | none => searchM g (x + 1) m
/-- The first body that begins with weights; d more weights of a sum follow. -/
def compM (f : Nat → Bool) : Nat → List Int → Int → Option (Int × List Int)
  | 0, ws, _ => if quoB f ws then some (quoI f ws, ws) else none
  | d + 1, ws, left => if quoB f ws then searchM (fun x => compM f d (ws ++ [x]) (left - x)) (max 0 (left - (d : Int) * 9)) (min left 9 + 1 - max 0 (left - (d : Int) * 9)).toNat else none
/-- Weights from 0 to 9. -/
def Light (ws : List Int) : Prop := ∀ i, i < ws.length → 0 ≤ nth ws i ∧ nth ws i ≤ 9
theorem Light.wts {ws : List Int} (h : Light ws) : Wts ws := fun i hi => by have := h i hi; omega
theorem Light.snoc {ws : List Int} (h : Light ws) {x : Int} (h1 : 0 ≤ x) (h2 : x ≤ 9) : Light (ws ++ [x]) := fun i hi => by
  by_cases e : i < ws.length
  · rw [nth_append_l e]; exact h i e
  · have : i = ws.length := by simp at hi; omega
    subst this
    rw [nth_append_r (Nat.le_refl _)]
    simp [nth]; omega
abbrev rowG (w : World) (base G k n : Nat) (ws : List Int) : Prop := w.ownsRow base 3 1 (.slice (some ⟨G, 0, none⟩) k n) k (lI ws)
abbrev bodyB (q : Int) (s : Value) (b : Bool) : Value := .tuple #[.agg #[.int .i64 q, s], .bool b]
/-- What complete returns. -/
def CompR (base G n k : Nat) (ws : List Int) (r : Option (Int × List Int)) (w : World) (e : Ending) (w' : World) : Prop :=
  w.grownBy w' (some G) ∧ match r with
    | none => e = .returned (bodyB 0 (.slice none 0 0) false) ∧ rowG w' base G k n ws
    | some (q, vs) => e = .returned (bodyB q (.slice (some ⟨G, 0, none⟩) n n) true) ∧ rowG w' base G n n vs
theorem blk_one {W : World} {B : Nat} {t : TypeId} {v : Value} (h : Blk W B t #[v]) : ∀ j u, [v][j]? = some u → W.cell? (Addr.add ⟨B, 0, none⟩ j) = some u := by
  intro j u hj
  have hl : j < 1 := (List.getElem?_eq_some_iff.1 hj).1
  have ha : Addr.add ⟨B, 0, none⟩ j = ⟨B, j, none⟩ := by first | (simp [Addr.add]; done) | (simp [Addr.add]; omega)
  rw [ha]
  exact h.c j (by rw [← hj]; simp)
theorem rowG_drop {w : World} {base G k n : Nat} {ws : List Int} {x : Int} (h : rowG w base G (k + 1) n (ws ++ [x])) (hl : ws.length = k) : rowG w base G k n ws := by
  refine ⟨by rw [lI_length]; omega, .inr ?_⟩
  rcases h.2 with ⟨h1, _⟩ | ⟨g, cap, cur, hv, hb, hg, hc, hm, hsz, ht⟩
  · cases h1
  · simp only [Value.slice.injEq, Option.some.injEq, Addr.mk.injEq, and_true, true_and] at hv
    obtain ⟨rfl, rfl⟩ := hv
    refine ⟨_, _, cur, rfl, hb, hg, by omega, hm, hsz, ?_⟩
    have := congrArg (List.take k) ht
    rw [List.take_take, show min k ((k + 1) * 1) = k by omega, lI_snoc, List.take_append_of_le_length (by rw [lI_length]; omega), List.take_of_length_le (l := lI ws) (by rw [lI_length]; omega)] at this
    rw [Nat.mul_one]
    exact this
theorem grown_low {w a b : World} {G : Nat} (h : w.grownBy a (some G)) (k : Below w.heap.size a b) : w.grownBy b (some G) := ⟨k.os.trans h.os, k.tape.trans h.tape, k.output.trans h.output, Nat.le_trans h.size k.size, fun i hi hr => (k.block i hi).trans (h.block i hi hr)⟩
theorem searchM_none {α : Type} {g : Int → Option α} {x hi : Int} (h : x ≤ hi) (hg : g x = none) : searchM g x (hi + 1 - x).toNat = searchM g (x + 1) (hi + 1 - (x + 1)).toNat := by
  obtain ⟨m, hm⟩ : ∃ m, (hi + 1 - x).toNat = m + 1 := ⟨(hi - x).toNat, by omega⟩
  rw [hm, searchM, hg, show (hi + 1 - (x + 1)).toNat = m by omega]
theorem searchM_some {α : Type} {g : Int → Option α} {x hi : Int} {r : α} (h : x ≤ hi) (hg : g x = some r) : searchM g x (hi + 1 - x).toNat = some r := by
  obtain ⟨m, hm⟩ : ∃ m, (hi + 1 - x).toNat = m + 1 := ⟨(hi - x).toNat, by omega⟩
  rw [hm, searchM, hg]
theorem searchM_over {α : Type} {g : Int → Option α} {x hi : Int} (h : hi < x) : searchM g x (hi + 1 - x).toNat = none := by
  rw [show (hi + 1 - x).toNat = 0 by omega]; rfl
def CompIn (base G n k : Nat) (ws : List Int) (g : Int → Option (Int × List Int)) (lo hi : Int) (N B : Nat) (w : World) (v : Value) (wr : World) : Prop :=
  ∃ x : Int, lo ≤ x ∧ v = .int .i64 x ∧ searchM g lo (hi + 1 - lo).toNat = searchM g x (hi + 1 - x).toNat ∧ w.grownBy wr (some G) ∧ rowG wr base G k n ws ∧
    Blk wr w.heap.size 60 #[.int .i64 (n : Nat), .slice (some ⟨B, 0, none⟩) N N] ∧ Blk wr (w.heap.size + 1) 24 #[.int .i64 0, .slice none 0 0]
theorem rowG_ints {w : World} {base G k n : Nat} {ws : List Int} (h : rowG w base G k n ws) : ws.length = k ∧ Ints w (some ⟨G, 0, none⟩) ws := by
  obtain ⟨h1, h2⟩ := own_ints h
  exact ⟨h1, .inr ⟨G, 0, rfl, fun i hi => h2 i (by omega)⟩⟩
set_option maxRecDepth 100000 in
set_option maxHeartbeats 8000000 in
theorem complete_any (base n B G : Nat) (f : Nat → Bool) (h8 : n ≤ 8) (hBG : B ≠ G) :
    ∀ (d k : Nat) (ws : List Int) (left : Int) (w : World), k + d = n → Light ws → 0 ≤ left → left ≤ 72 → Bools w B (pw n) f → rowG w base G k n ws →
    Calls Try.prog 75 #[gV n B (pw n), .slice (some ⟨G, 0, none⟩) k n, .int .i64 left] w (CompR base G n k ws (compM f d ws left) w) := by
  intro d
  induction d with
  | zero =>
    intro k ws left w hk hL h0 h72 hB hG
    have hlen := (rowG_ints hG).1
    have hkn : k = n := by omega
    subst hkn
    clear hk
    have Q := Lib.hid (fun W (hW : Bools W B (pw k) f) (hW' : rowG W base G k k ws) => quota_any k B f (some ⟨G, 0, none⟩) k k ws W h8 hW (rowG_ints hW').2 hlen (Nat.le_refl _) hL.wts)
    have hcm := Lib.hid (show compM f 0 ws left = if quoB f ws then some (quoI f ws, ws) else none from rfl)
    have hGl : G < w.heap.size := (hG.lt G rfl).2
    obtain ⟨N, hN⟩ : ∃ N, Hid (pw k = N) := ⟨_, Lib.hid rfl⟩
    rw [hN.out] at Q hB ⊢
    replace hB := Lib.hid hB
    replace hG := Lib.hid hG
    replace hlen := Lib.hid hlen
    generalize compM f 0 ws left = r at *
    generalize quoI f ws = q at *
    cases g : quoB f ws
    all_goals
      rw [g] at Q hcm
      replace g := Lib.hid g
      go_enter Try.func75, Try.ntmps75
      go_wp2_with (go_at_call 80; refine (Q.out _ (hB.out.next (b2 _ _ _)) (owns_next hG.out (b2 _ _ _))).mono ?_; rintro e w1 ⟨rfl, hb1⟩; have hR := (two_box w #[.int .i64 (k : Nat), .slice (some ⟨B, 0, none⟩) N N] #[.int .i64 0, .slice none 0 0] 60 24).ext hb1; have hX := ((Blk.new w 60 #[.int .i64 (k : Nat), .slice (some ⟨B, 0, none⟩) N N]).alloc (.cells #[.int .i64 0, .slice none 0 0] 24)).ext hb1; have x0 := hX.c 0 rfl; have r0 := hR.c 0 rfl; have r1 := hR.c 1 rfl; have rl := hR.lt; have f0 := hR.fr 0; have f1 := hR.fr 1; have hZ := hR.set2 (.int .i64 0) (.slice none 0 0); have z0 := hZ.c 0 rfl; have z1 := hZ.c 1 rfl; have hS := hR.set2 (.int .i64 q) (.slice (some ⟨G, 0, none⟩) k k); have s0 := hS.c 0 rfl; have s1 := hS.c 1 rfl; replace hS := Lib.hid hS; replace hZ := Lib.hid hZ; replace hR := Lib.hid hR; replace hX := Lib.hid hX)
    · refine bodyPost_ret (v := bodyB 0 (.slice none 0 0) false) (by simp [results, Try.results75, go_sem, z0, z1]) rfl ?_
      have hbb := ((nextB (b2 w _ _) hb1).setCell (p := ⟨w.heap.size + 1, 0, none⟩) (Nat.le_succ _) (.int .i64 0)).setCell (p := ⟨w.heap.size + 1, 1, none⟩) (Nat.le_succ _) (.slice none 0 0)
      rw [hcm.out]
      exact ⟨grown_below hbb _, rfl, owns_next hG.out hbb⟩
    · refine bodyPost_ret (v := bodyB q (.slice (some ⟨G, 0, none⟩) k k) true) (by simp [results, Try.results75, go_sem, s0, s1]) rfl ?_
      have hbb := ((nextB (b2 w _ _) hb1).setCell (p := ⟨w.heap.size + 1, 0, none⟩) (Nat.le_succ _) (.int .i64 q)).setCell (p := ⟨w.heap.size + 1, 1, none⟩) (Nat.le_succ _) (.slice (some ⟨G, 0, none⟩) k k)
      rw [hcm.out]
      exact ⟨grown_below hbb _, rfl, owns_next hG.out hbb⟩
  | succ d ih =>
    intro k ws left w hk hL h0 h72 hB hG
    obtain ⟨i0, hi, hz0, hz1, hz2⟩ := info_parts infoInt
    have G0 := Lib.hid hi
    have G2 := Lib.hid hz1
    clear hi hz0 hz1 hz2
    have hlen := (rowG_ints hG).1
    have Q := Lib.hid (fun W (hW : Bools W B (pw n) f) (hW' : rowG W base G k n ws) => quota_any n B f (some ⟨G, 0, none⟩) k n ws W h8 hW (rowG_ints hW').2 hlen (by omega) hL.wts)
    have IH := Lib.hid (fun x W (h1 : 0 ≤ x) (h2 : x ≤ 9) (h3 : x ≤ left) hW hW' => ih (k + 1) (ws ++ [x]) (left - x) W (by omega) (hL.snoc h1 h2) (by omega) (by omega) hW hW')
    have hGl : G < w.heap.size := (hG.lt G rfl).2
    obtain ⟨N, hN⟩ : ∃ N, Hid (pw n = N) := ⟨_, Lib.hid rfl⟩
    rw [hN.out] at Q IH hB ⊢
    have hkd : (n : Int) - (k : Int) - 1 = (d : Int) := by omega
    have hd8 : d ≤ 7 := by omega
    have hk8 : k < n := by omega
    clear ih hk
    obtain ⟨lo, hlo⟩ : ∃ lo, Hid (max 0 (left - (d : Int) * 9) = lo) := ⟨_, Lib.hid rfl⟩
    obtain ⟨hi, hhi⟩ : ∃ hi, Hid (min left 9 = hi) := ⟨_, Lib.hid rfl⟩
    have hlo0 : 0 ≤ lo ∧ (lo = 0 ∨ lo = left - (d : Int) * 9) := by rw [← hlo.out]; omega
    have hhi0 : hi ≤ left ∧ hi ≤ 9 := by rw [← hhi.out]; omega
    obtain ⟨g, hg⟩ : ∃ g : Int → Option (Int × List Int), Hid (∀ x, g x = compM f d (ws ++ [x]) (left - x)) := ⟨_, Lib.hid fun _ => rfl⟩
    have hcm : Hid (compM f (d + 1) ws left = if quoB f ws then searchM g lo (hi + 1 - lo).toNat else none) := Lib.hid (by
      have : (fun x => compM f d (ws ++ [x]) (left - x)) = g := funext fun x => (hg.out x).symm
      rw [← this, ← hlo.out, ← hhi.out]
      rfl)
    replace hB := Lib.hid hB
    replace hG := Lib.hid hG
    replace hlen := Lib.hid hlen
    generalize compM f (d + 1) ws left = r at *
    generalize quoI f ws = q at *
    cases gq : quoB f ws
    · rw [gq] at Q hcm
      replace gq := Lib.hid gq
      go_enter Try.func75, Try.ntmps75
      go_wp2_with (go_at_call 80; refine (Q.out _ (hB.out.next (b2 _ _ _)) (owns_next hG.out (b2 _ _ _))).mono ?_; rintro e w1 ⟨rfl, hb1⟩; have hR := (two_box w #[.int .i64 (n : Nat), .slice (some ⟨B, 0, none⟩) N N] #[.int .i64 0, .slice none 0 0] 60 24).ext hb1; have r0 := hR.c 0 rfl; have r1 := hR.c 1 rfl; have rl := hR.lt; have f0 := hR.fr 0; have f1 := hR.fr 1; have hZ := hR.set2 (.int .i64 0) (.slice none 0 0); have z0 := hZ.c 0 rfl; have z1 := hZ.c 1 rfl; replace hZ := Lib.hid hZ; replace hR := Lib.hid hR)
      refine bodyPost_ret (v := bodyB 0 (.slice none 0 0) false) (by simp [results, Try.results75, go_sem, z0, z1]) rfl ?_
      have hbb := ((nextB (b2 w _ _) hb1).setCell (p := ⟨w.heap.size + 1, 0, none⟩) (Nat.le_succ _) (.int .i64 0)).setCell (p := ⟨w.heap.size + 1, 1, none⟩) (Nat.le_succ _) (.slice none 0 0)
      rw [hcm.out]
      exact ⟨grown_below hbb _, rfl, owns_next hG.out hbb⟩
    · rw [gq] at Q hcm
      replace gq := Lib.hid gq
      obtain ⟨e, he⟩ : ∃ e, left - (d : Int) * 9 = e := ⟨_, rfl⟩
      have hlo' := hlo.out
      rw [he] at hlo'
      have hhi' := hhi.out
      go_enter Try.func75, Try.ntmps75
      go_wp2_with (go_at_call 80; refine (Q.out _ (hB.out.next (b2 _ _ _)) (owns_next hG.out (b2 _ _ _))).mono ?_; rintro e w1 ⟨rfl, hb1⟩; have hR := Lib.hid ((two_box w #[.int .i64 (n : Nat), .slice (some ⟨B, 0, none⟩) N N] #[.int .i64 0, .slice none 0 0] 60 24).ext hb1); have hX := ((Blk.new w 60 #[.int .i64 (n : Nat), .slice (some ⟨B, 0, none⟩) N N]).alloc (.cells #[.int .i64 0, .slice none 0 0] 24)).ext hb1; have x0 := hX.c 0 rfl; replace hX := Lib.hid hX)
      have hbb := nextB (b2 w (.cells #[.int .i64 (n : Nat), .slice (some ⟨B, 0, none⟩) N N] 60) (.cells #[.int .i64 0, .slice none 0 0] 24)) hb1
      go_loopw [11, 12, 13] (fun x _ _ wr => CompIn base G n k ws g lo hi N B w x wr) (fun x _ _ _ => (hi + 1 - intOf x).toNat)
      case atStart => exact ⟨_, Int.le_refl _, rfl, rfl, grown_below hbb _, owns_next hG.out hbb, hX.out, hR.out⟩
      case round =>
        clear hX hR hbb x0 hb1
        obtain ⟨x, hx1, rfl, hse, hgr, hGr, hX, hR⟩ := hrel
        have x0 := hX.c 0 rfl
        have x1 := hX.c 1 rfl
        have xl := hX.lt
        by_cases hxh : x ≤ hi
        · have hx0 : 0 ≤ x := by omega
          have hx9 : x ≤ 9 := by omega
          have hxl : x ≤ left := by omega
          have hlx := IntWalk.i64_in (left - x) (by omega)
          have hwG : w.heap.size ≠ G := by omega
          have hwG1 : w.heap.size + 1 ≠ G := by omega
          cases hgx : g x with
          | none =>
            have IHx := Lib.hid (fun W' h1 h2 => (show Calls Try.prog 75 #[gV n B N, .slice (some ⟨G, 0, none⟩) (k + 1) n, .int .i64 (left - x)] W' (CompR base G n (k + 1) (ws ++ [x]) none W') by
              have := IH.out x W' hx0 hx9 hxl h1 h2
              rw [← hg.out, hgx] at this
              exact this))
            go_wp2
            refine wp_region_S (fun W => Blk W w.heap.size 60 #[.int .i64 (n : Nat), .slice (some ⟨B, 0, none⟩) N N]) (by kernel_rfl) ?_
            show wpAnyS _ _ _ _ _ (14 + 1) _ _ _
            replace hgr : w.grownBy wr.drew (some G) := ⟨hgr.os, hgr.tape, hgr.output, hgr.size, hgr.block⟩
            replace hGr : rowG wr.drew base G k n ws := hGr
            replace hX : Blk wr.drew w.heap.size 60 #[.int .i64 (n : Nat), .slice (some ⟨B, 0, none⟩) N N] := hX
            replace hR : Blk wr.drew (w.heap.size + 1) 24 #[.int .i64 0, .slice none 0 0] := hR
            clear x0 x1 xl
            generalize wr.drew = W at *
            refine anyS_pure 1 (.slice (some ⟨G, 0, none⟩) k n) rfl (by kernel_rfl) (by kernel_rfl) (by kernel_rfl) (fun _ _ _ h => h) (by rfl) (fun w _ => by go_simp) hX ?_
            refine anyS_pure 2 (.int .i64 x) rfl (by kernel_rfl) (by kernel_rfl) (by kernel_rfl) (fun _ _ _ h => h) (by rfl) (fun w _ => by go_simp) hX ?_
            refine anyS_pure 5 (.int .i64 left) rfl (by kernel_rfl) (by kernel_rfl) (by kernel_rfl) (fun _ _ _ h => h) (by rfl) (fun w _ => by go_simp) hX ?_
            refine anyS_pure 6 (.int .i64 x) rfl (by kernel_rfl) (by kernel_rfl) (by kernel_rfl) (fun _ _ _ h => h) (by rfl) (fun w _ => by go_simp) hX ?_
            refine anyS_pure 7 (.int .i64 (left - x)) rfl (by kernel_rfl) (by kernel_rfl) (by kernel_rfl) (fun _ _ _ h => h) (by rfl) (fun w _ => by go_simp) hX ?_
            refine anyS_pure 0 (gV n B N) rfl (by kernel_rfl) (by kernel_rfl) (by kernel_rfl) (fun _ _ _ h => h) (by rfl) (fun W hW => by have y0 := hW.c 0 rfl; have y1 := hW.c 1 rfl; go_simp) hX ?_
            try simp only [Act.put, List.setIfInBounds_toArray]
            refine anyS_two 3 12 (by kernel_rfl) rfl rfl ?_ ?_
            · go_wp2_with fail
              show _ ∧ _
              have hC : Blk ((W).alloc (.cells #[.int .i64 x] 3)) (W.heap.size) 3 #[.int .i64 x] := by
                have h9 := Blk.new (W) 3 #[.int .i64 x]
                first | exact h9 | simpa using h9
              replace hgr := grown_trans hgr (grown_below (b1 (W) (.cells #[.int .i64 x] 3)) (some G))
              replace hGr := owns_next hGr (b1 (W) (.cells #[.int .i64 x] 3))
              replace hX := hX.alloc (.cells #[.int .i64 x] 3)
              replace hR := hR.alloc (.cells #[.int .i64 x] 3)
              refine ⟨hX, ?_⟩
              try simp only [Act.put, List.setIfInBounds_toArray, List.set_cons_zero, List.set_cons_succ]
              refine anyS_two 4 12 (by kernel_rfl) rfl rfl ?_ ?_
              · refine wpList_append_fits _ rfl _ _ 22 rfl base 3 i0 1 Try.underlying22 G0.out G2.out G k n _ rfl hGr ⟨_, 0, none⟩ 1 1 [.int .i64 x] rfl rfl (blk_one hC) (by simp [Value.oneCell']) (by omega) ?_
                intro w3 hw3 hg3
                show _ ∧ _
                rw [← lI_snoc] at hw3
                replace hGr := hw3
                clear hw3
                replace hgr := grown_trans hgr hg3
                replace hX := hX.grown hg3 (by simpa using hwG)
                replace hR := hR.grown hg3 (by simpa using hwG1)
                refine ⟨hX, ?_⟩
                try simp only [Act.put, List.setIfInBounds_toArray]
                refine anyS_two 8 12 (by kernel_rfl) rfl rfl ?_ ?_
                · go_wp2_with (go_at_call 75; refine (IHx.out _ (hB.out.grown hgr (by simpa using hBG)) hGr).mono ?_; rintro e w4 ⟨hg4, rfl, hw4⟩)
                  show _ ∧ _
                  replace hgr := grown_trans hgr hg4
                  replace hX := hX.grown hg4 (by simpa using hwG)
                  replace hR := hR.grown hg4 (by simpa using hwG1)
                  refine ⟨hX, ?_⟩
                  try simp only [Act.put, List.setIfInBounds_toArray, List.set_cons_zero, List.set_cons_succ]
                  refine anyS_pure 9 (bodyB 0 (.slice none 0 0) false) rfl (by kernel_rfl) (by kernel_rfl) (by kernel_rfl) (fun _ _ _ h => h) (by rfl) (fun w _ => by go_simp) hX ?_
                  refine anyS_pure 10 (.agg #[.int .i64 0, .slice none 0 0]) rfl (by kernel_rfl) (by kernel_rfl) (by kernel_rfl) (fun _ _ _ h => h) (by rfl) (fun w _ => by go_simp) hX ?_
                  refine anyS_pure 11 (.bool false) rfl (by kernel_rfl) (by kernel_rfl) (by kernel_rfl) (fun _ _ _ h => h) (by rfl) (fun w _ => by go_simp) hX ?_
                  try simp only [Act.put, List.setIfInBounds_toArray]
                  refine anyS_one 12 (by kernel_rfl) rfl ?_
                  go_wp2_with fail
                  show _ ∧ _
                  refine ⟨hX.alloc _, ?_⟩
                  try simp only [Act.put, List.setIfInBounds_toArray, List.set_cons_zero, List.set_cons_succ]
                  refine anyS_one 13 (by kernel_rfl) rfl ?_
                  have hAF := Blk.new w4 24 #[(.int .i64 0), (.slice none 0 0)]
                  have hXF := hX.alloc (.cells #[(.int .i64 0), (.slice none 0 0)] 24)
                  have hRF := hR.alloc (.cells #[(.int .i64 0), (.slice none 0 0)] 24)
                  have hgrF := grown_trans hgr (grown_below (b1 w4 (.cells #[(.int .i64 0), (.slice none 0 0)] 24)) (some G))
                  have hGrF : rowG _ base G (k + 1) n (ws ++ [x]) := owns_next hw4 (b1 w4 (.cells #[(.int .i64 0), (.slice none 0 0)] 24))
                  clear hX hR hgr hw4 hGr hC
                  replace hAF := Lib.hid hAF
                  replace hXF := Lib.hid hXF
                  replace hRF := Lib.hid hRF
                  replace hgrF := Lib.hid hgrF
                  replace hGrF := Lib.hid hGrF
                  go_wp2_with fail
                  show _ ∧ _
                  replace hAF := hAF.out
                  replace hXF := hXF.out
                  replace hRF := hRF.out
                  replace hgrF := hgrF.out
                  replace hGrF := hGrF.out
                  refine ⟨hXF, ?_⟩
                  refine anyS_one 14 (by kernel_rfl) rfl ?_
                  go_wp2_with fail
                  show _ ∧ _
                  refine ⟨hXF, anyS_end (by kernel_rfl) ?_⟩
                  have hGrk := Lib.hid (rowG_drop hGrF hlen.out)
                  have hseq := Lib.hid (hse.trans (searchM_none hxh hgx))
                  replace hXF := Lib.hid hXF
                  replace hRF := Lib.hid hRF
                  replace hgrF := Lib.hid hgrF
                  clear hse hgx hAF hGrF
                  generalize w4.alloc (.cells #[(.int .i64 0), (.slice none 0 0)] 24) = WF at *
                  go_wp2
                  go_roundw
                  case rel => exact ⟨x + 1, by omega, rfl, hseq.out, hgrF.out, hGrk.out, hXF.out, hRF.out⟩
                  case measure => simp [intOf]; omega
                · go_wp2_with fail
                  show _ ∧ _
                  have hA : Blk ((w3).alloc (.cells #[.int .i64 0, .slice none 0 0] 24)) (w3.heap.size) 24 #[.int .i64 0, .slice none 0 0] := by
                    have h9 := Blk.new (w3) 24 #[.int .i64 0, .slice none 0 0]
                    first | exact h9 | simpa using h9
                  have hAl : w.heap.size + 1 < w3.heap.size := by
                    have h9 := hR.lt
                    (try simp at h9)
                    omega
                  have hAG : G < w3.heap.size := by
                    have h9 := hgr.size
                    (try simp at h9)
                    omega
                  replace hgr := grown_trans hgr (grown_below (b1 (w3) (.cells #[.int .i64 0, .slice none 0 0] 24)) (some G))
                  replace hGr := owns_next hGr (b1 (w3) (.cells #[.int .i64 0, .slice none 0 0] 24))
                  replace hX := hX.alloc (.cells #[.int .i64 0, .slice none 0 0] 24)
                  replace hR := hR.alloc (.cells #[.int .i64 0, .slice none 0 0] 24)
                  refine ⟨hX, ?_⟩
                  try simp only [Act.put, List.setIfInBounds_toArray, List.set_cons_zero, List.set_cons_succ]
                  refine anyS_one 8 (by kernel_rfl) rfl ?_
                  go_wp2_with (go_at_call 75; refine (IHx.out _ (hB.out.grown hgr (by simpa using hBG)) hGr).mono ?_; rintro e w4 ⟨hg4, rfl, hw4⟩)
                  show _ ∧ _
                  replace hgr := grown_trans hgr hg4
                  replace hX := hX.grown hg4 (by simpa using hwG)
                  replace hR := hR.grown hg4 (by simpa using hwG1)
                  replace hA := hA.grown hg4 (by simp; omega)
                  refine ⟨hX, ?_⟩
                  try simp only [Act.put, List.setIfInBounds_toArray, List.set_cons_zero, List.set_cons_succ]
                  refine anyS_pure 9 (bodyB 0 (.slice none 0 0) false) rfl (by kernel_rfl) (by kernel_rfl) (by kernel_rfl) (fun _ _ _ h => h) (by rfl) (fun w _ => by go_simp) hX ?_
                  refine anyS_pure 10 (.agg #[.int .i64 0, .slice none 0 0]) rfl (by kernel_rfl) (by kernel_rfl) (by kernel_rfl) (fun _ _ _ h => h) (by rfl) (fun w _ => by go_simp) hX ?_
                  refine anyS_pure 11 (.bool false) rfl (by kernel_rfl) (by kernel_rfl) (by kernel_rfl) (fun _ _ _ h => h) (by rfl) (fun w _ => by go_simp) hX ?_
                  try simp only [Act.put, List.setIfInBounds_toArray]
                  refine anyS_one 13 (by kernel_rfl) rfl ?_
                  have a0 := hA.c 0 rfl
                  have a1 := hA.c 1 rfl
                  have af0 := hA.fr 0
                  have af1 := hA.fr 1
                  have al := hA.lt
                  have hAF := hA.set2 (.int .i64 0) (.slice none 0 0)
                  have hXF := (hX.other (B' := w3.heap.size) (i := 0) (by omega) (.int .i64 0)).other (B' := w3.heap.size) (i := 1) (by omega) (.slice none 0 0)
                  have hRF := (hR.other (B' := w3.heap.size) (i := 0) (by omega) (.int .i64 0)).other (B' := w3.heap.size) (i := 1) (by omega) (.slice none 0 0)
                  have hbl : Below w.heap.size w4 ((w4.setCell ⟨w3.heap.size, 0, none⟩ (.int .i64 0)).setCell ⟨w3.heap.size, 1, none⟩ (.slice none 0 0)) := ((Below.refl _ _).setCell (show w.heap.size ≤ w3.heap.size by omega) _).setCell (show w.heap.size ≤ w3.heap.size by omega) _
                  have hgrF := grown_low hgr hbl
                  have hGrF : rowG _ base G (k + 1) n (ws ++ [x]) := ownsRow_setCell_other (a := ⟨w3.heap.size, 1, none⟩) (ownsRow_setCell_other (a := ⟨w3.heap.size, 0, none⟩) hw4 (by simp [Value.ownBlock]; omega) (.int .i64 0)) (by simp [Value.ownBlock]; omega) (.slice none 0 0)
                  clear hA hX hR hgr hbl hw4 hGr hC
                  replace hAF := Lib.hid hAF
                  replace hXF := Lib.hid hXF
                  replace hRF := Lib.hid hRF
                  replace hgrF := Lib.hid hgrF
                  replace hGrF := Lib.hid hGrF
                  go_wp2_with fail
                  show _ ∧ _
                  replace hAF := hAF.out
                  replace hXF := hXF.out
                  replace hRF := hRF.out
                  replace hgrF := hgrF.out
                  replace hGrF := hGrF.out
                  refine ⟨hXF, ?_⟩
                  refine anyS_one 14 (by kernel_rfl) rfl ?_
                  go_wp2_with fail
                  show _ ∧ _
                  refine ⟨hXF, anyS_end (by kernel_rfl) ?_⟩
                  have hGrk := Lib.hid (rowG_drop hGrF hlen.out)
                  have hseq := Lib.hid (hse.trans (searchM_none hxh hgx))
                  replace hXF := Lib.hid hXF
                  replace hRF := Lib.hid hRF
                  replace hgrF := Lib.hid hgrF
                  clear hse hgx hAF hGrF
                  generalize ((w4.setCell ⟨w3.heap.size, 0, none⟩ (.int .i64 0)).setCell ⟨w3.heap.size, 1, none⟩ (.slice none 0 0)) = WF at *
                  go_wp2
                  go_roundw
                  case rel => exact ⟨x + 1, by omega, rfl, hseq.out, hgrF.out, hGrk.out, hXF.out, hRF.out⟩
                  case measure => simp [intOf]; omega
              · go_wp2_with fail
                show _ ∧ _
                have hA : Blk ((W.alloc (.cells #[.int .i64 x] 3)).alloc (.cells #[.int .i64 0, .slice none 0 0] 24)) (W.heap.size + 1) 24 #[.int .i64 0, .slice none 0 0] := by
                  have h9 := Blk.new (W.alloc (.cells #[.int .i64 x] 3)) 24 #[.int .i64 0, .slice none 0 0]
                  first | exact h9 | simpa using h9
                have hAl : w.heap.size + 1 < W.heap.size + 1 := by
                  have h9 := hR.lt
                  (try simp at h9)
                  omega
                have hAG : G < W.heap.size + 1 := by
                  have h9 := hgr.size
                  (try simp at h9)
                  omega
                replace hgr := grown_trans hgr (grown_below (b1 (W.alloc (.cells #[.int .i64 x] 3)) (.cells #[.int .i64 0, .slice none 0 0] 24)) (some G))
                replace hGr := owns_next hGr (b1 (W.alloc (.cells #[.int .i64 x] 3)) (.cells #[.int .i64 0, .slice none 0 0] 24))
                replace hX := hX.alloc (.cells #[.int .i64 0, .slice none 0 0] 24)
                replace hR := hR.alloc (.cells #[.int .i64 0, .slice none 0 0] 24)
                replace hC := hC.alloc (.cells #[.int .i64 0, .slice none 0 0] 24)
                refine ⟨hX, ?_⟩
                try simp only [Act.put, List.setIfInBounds_toArray, List.set_cons_zero, List.set_cons_succ]
                refine anyS_one 4 (by kernel_rfl) rfl ?_
                refine wpList_append_fits _ rfl _ _ 22 rfl base 3 i0 1 Try.underlying22 G0.out G2.out G k n _ rfl hGr ⟨_, 0, none⟩ 1 1 [.int .i64 x] rfl rfl (blk_one hC) (by simp [Value.oneCell']) (by omega) ?_
                intro w3 hw3 hg3
                show _ ∧ _
                rw [← lI_snoc] at hw3
                replace hGr := hw3
                clear hw3
                replace hgr := grown_trans hgr hg3
                replace hX := hX.grown hg3 (by simpa using hwG)
                replace hR := hR.grown hg3 (by simpa using hwG1)
                replace hA := hA.grown hg3 (by simp; omega)
                refine ⟨hX, ?_⟩
                try simp only [Act.put, List.setIfInBounds_toArray]
                refine anyS_one 8 (by kernel_rfl) rfl ?_
                go_wp2_with (go_at_call 75; refine (IHx.out _ (hB.out.grown hgr (by simpa using hBG)) hGr).mono ?_; rintro e w4 ⟨hg4, rfl, hw4⟩)
                show _ ∧ _
                replace hgr := grown_trans hgr hg4
                replace hX := hX.grown hg4 (by simpa using hwG)
                replace hR := hR.grown hg4 (by simpa using hwG1)
                replace hA := hA.grown hg4 (by simp; omega)
                refine ⟨hX, ?_⟩
                try simp only [Act.put, List.setIfInBounds_toArray, List.set_cons_zero, List.set_cons_succ]
                refine anyS_pure 9 (bodyB 0 (.slice none 0 0) false) rfl (by kernel_rfl) (by kernel_rfl) (by kernel_rfl) (fun _ _ _ h => h) (by rfl) (fun w _ => by go_simp) hX ?_
                refine anyS_pure 10 (.agg #[.int .i64 0, .slice none 0 0]) rfl (by kernel_rfl) (by kernel_rfl) (by kernel_rfl) (fun _ _ _ h => h) (by rfl) (fun w _ => by go_simp) hX ?_
                refine anyS_pure 11 (.bool false) rfl (by kernel_rfl) (by kernel_rfl) (by kernel_rfl) (fun _ _ _ h => h) (by rfl) (fun w _ => by go_simp) hX ?_
                try simp only [Act.put, List.setIfInBounds_toArray]
                refine anyS_one 13 (by kernel_rfl) rfl ?_
                have a0 := hA.c 0 rfl
                have a1 := hA.c 1 rfl
                have af0 := hA.fr 0
                have af1 := hA.fr 1
                have al := hA.lt
                have hAF := hA.set2 (.int .i64 0) (.slice none 0 0)
                have hXF := (hX.other (B' := W.heap.size + 1) (i := 0) (by omega) (.int .i64 0)).other (B' := W.heap.size + 1) (i := 1) (by omega) (.slice none 0 0)
                have hRF := (hR.other (B' := W.heap.size + 1) (i := 0) (by omega) (.int .i64 0)).other (B' := W.heap.size + 1) (i := 1) (by omega) (.slice none 0 0)
                have hbl : Below w.heap.size w4 ((w4.setCell ⟨W.heap.size + 1, 0, none⟩ (.int .i64 0)).setCell ⟨W.heap.size + 1, 1, none⟩ (.slice none 0 0)) := ((Below.refl _ _).setCell (show w.heap.size ≤ W.heap.size + 1 by omega) _).setCell (show w.heap.size ≤ W.heap.size + 1 by omega) _
                have hgrF := grown_low hgr hbl
                have hGrF : rowG _ base G (k + 1) n (ws ++ [x]) := ownsRow_setCell_other (a := ⟨W.heap.size + 1, 1, none⟩) (ownsRow_setCell_other (a := ⟨W.heap.size + 1, 0, none⟩) hw4 (by simp [Value.ownBlock]; omega) (.int .i64 0)) (by simp [Value.ownBlock]; omega) (.slice none 0 0)
                clear hA hX hR hgr hbl hw4 hGr hC
                replace hAF := Lib.hid hAF
                replace hXF := Lib.hid hXF
                replace hRF := Lib.hid hRF
                replace hgrF := Lib.hid hgrF
                replace hGrF := Lib.hid hGrF
                go_wp2_with fail
                show _ ∧ _
                replace hAF := hAF.out
                replace hXF := hXF.out
                replace hRF := hRF.out
                replace hgrF := hgrF.out
                replace hGrF := hGrF.out
                refine ⟨hXF, ?_⟩
                refine anyS_one 14 (by kernel_rfl) rfl ?_
                go_wp2_with fail
                show _ ∧ _
                refine ⟨hXF, anyS_end (by kernel_rfl) ?_⟩
                have hGrk := Lib.hid (rowG_drop hGrF hlen.out)
                have hseq := Lib.hid (hse.trans (searchM_none hxh hgx))
                replace hXF := Lib.hid hXF
                replace hRF := Lib.hid hRF
                replace hgrF := Lib.hid hgrF
                clear hse hgx hAF hGrF
                generalize ((w4.setCell ⟨W.heap.size + 1, 0, none⟩ (.int .i64 0)).setCell ⟨W.heap.size + 1, 1, none⟩ (.slice none 0 0)) = WF at *
                go_wp2
                go_roundw
                case rel => exact ⟨x + 1, by omega, rfl, hseq.out, hgrF.out, hGrk.out, hXF.out, hRF.out⟩
                case measure => simp [intOf]; omega
            · go_wp2_with fail
              show _ ∧ _
              have hA : Blk ((W).alloc (.cells #[.int .i64 0, .slice none 0 0] 24)) (W.heap.size) 24 #[.int .i64 0, .slice none 0 0] := by
                have h9 := Blk.new (W) 24 #[.int .i64 0, .slice none 0 0]
                first | exact h9 | simpa using h9
              have hAl : w.heap.size + 1 < W.heap.size := by
                have h9 := hR.lt
                (try simp at h9)
                omega
              have hAG : G < W.heap.size := by
                have h9 := hgr.size
                (try simp at h9)
                omega
              replace hgr := grown_trans hgr (grown_below (b1 (W) (.cells #[.int .i64 0, .slice none 0 0] 24)) (some G))
              replace hGr := owns_next hGr (b1 (W) (.cells #[.int .i64 0, .slice none 0 0] 24))
              replace hX := hX.alloc (.cells #[.int .i64 0, .slice none 0 0] 24)
              replace hR := hR.alloc (.cells #[.int .i64 0, .slice none 0 0] 24)
              refine ⟨hX, ?_⟩
              try simp only [Act.put, List.setIfInBounds_toArray, List.set_cons_zero, List.set_cons_succ]
              refine anyS_one 3 (by kernel_rfl) rfl ?_
              go_wp2_with fail
              show _ ∧ _
              have hC : Blk ((W.alloc (.cells #[.int .i64 0, .slice none 0 0] 24)).alloc (.cells #[.int .i64 x] 3)) (W.heap.size + 1) 3 #[.int .i64 x] := by
                have h9 := Blk.new (W.alloc (.cells #[.int .i64 0, .slice none 0 0] 24)) 3 #[.int .i64 x]
                first | exact h9 | simpa using h9
              replace hgr := grown_trans hgr (grown_below (b1 (W.alloc (.cells #[.int .i64 0, .slice none 0 0] 24)) (.cells #[.int .i64 x] 3)) (some G))
              replace hGr := owns_next hGr (b1 (W.alloc (.cells #[.int .i64 0, .slice none 0 0] 24)) (.cells #[.int .i64 x] 3))
              replace hX := hX.alloc (.cells #[.int .i64 x] 3)
              replace hR := hR.alloc (.cells #[.int .i64 x] 3)
              replace hA := hA.alloc (.cells #[.int .i64 x] 3)
              refine ⟨hX, ?_⟩
              try simp only [Act.put, List.setIfInBounds_toArray, List.set_cons_zero, List.set_cons_succ]
              refine anyS_one 4 (by kernel_rfl) rfl ?_
              refine wpList_append_fits _ rfl _ _ 22 rfl base 3 i0 1 Try.underlying22 G0.out G2.out G k n _ rfl hGr ⟨_, 0, none⟩ 1 1 [.int .i64 x] rfl rfl (blk_one hC) (by simp [Value.oneCell']) (by omega) ?_
              intro w3 hw3 hg3
              show _ ∧ _
              rw [← lI_snoc] at hw3
              replace hGr := hw3
              clear hw3
              replace hgr := grown_trans hgr hg3
              replace hX := hX.grown hg3 (by simpa using hwG)
              replace hR := hR.grown hg3 (by simpa using hwG1)
              replace hA := hA.grown hg3 (by simp; omega)
              refine ⟨hX, ?_⟩
              try simp only [Act.put, List.setIfInBounds_toArray]
              refine anyS_one 8 (by kernel_rfl) rfl ?_
              go_wp2_with (go_at_call 75; refine (IHx.out _ (hB.out.grown hgr (by simpa using hBG)) hGr).mono ?_; rintro e w4 ⟨hg4, rfl, hw4⟩)
              show _ ∧ _
              replace hgr := grown_trans hgr hg4
              replace hX := hX.grown hg4 (by simpa using hwG)
              replace hR := hR.grown hg4 (by simpa using hwG1)
              replace hA := hA.grown hg4 (by simp; omega)
              refine ⟨hX, ?_⟩
              try simp only [Act.put, List.setIfInBounds_toArray, List.set_cons_zero, List.set_cons_succ]
              refine anyS_pure 9 (bodyB 0 (.slice none 0 0) false) rfl (by kernel_rfl) (by kernel_rfl) (by kernel_rfl) (fun _ _ _ h => h) (by rfl) (fun w _ => by go_simp) hX ?_
              refine anyS_pure 10 (.agg #[.int .i64 0, .slice none 0 0]) rfl (by kernel_rfl) (by kernel_rfl) (by kernel_rfl) (fun _ _ _ h => h) (by rfl) (fun w _ => by go_simp) hX ?_
              refine anyS_pure 11 (.bool false) rfl (by kernel_rfl) (by kernel_rfl) (by kernel_rfl) (fun _ _ _ h => h) (by rfl) (fun w _ => by go_simp) hX ?_
              try simp only [Act.put, List.setIfInBounds_toArray]
              refine anyS_one 13 (by kernel_rfl) rfl ?_
              have a0 := hA.c 0 rfl
              have a1 := hA.c 1 rfl
              have af0 := hA.fr 0
              have af1 := hA.fr 1
              have al := hA.lt
              have hAF := hA.set2 (.int .i64 0) (.slice none 0 0)
              have hXF := (hX.other (B' := W.heap.size) (i := 0) (by omega) (.int .i64 0)).other (B' := W.heap.size) (i := 1) (by omega) (.slice none 0 0)
              have hRF := (hR.other (B' := W.heap.size) (i := 0) (by omega) (.int .i64 0)).other (B' := W.heap.size) (i := 1) (by omega) (.slice none 0 0)
              have hbl : Below w.heap.size w4 ((w4.setCell ⟨W.heap.size, 0, none⟩ (.int .i64 0)).setCell ⟨W.heap.size, 1, none⟩ (.slice none 0 0)) := ((Below.refl _ _).setCell (show w.heap.size ≤ W.heap.size by omega) _).setCell (show w.heap.size ≤ W.heap.size by omega) _
              have hgrF := grown_low hgr hbl
              have hGrF : rowG _ base G (k + 1) n (ws ++ [x]) := ownsRow_setCell_other (a := ⟨W.heap.size, 1, none⟩) (ownsRow_setCell_other (a := ⟨W.heap.size, 0, none⟩) hw4 (by simp [Value.ownBlock]; omega) (.int .i64 0)) (by simp [Value.ownBlock]; omega) (.slice none 0 0)
              clear hA hX hR hgr hbl hw4 hGr hC
              replace hAF := Lib.hid hAF
              replace hXF := Lib.hid hXF
              replace hRF := Lib.hid hRF
              replace hgrF := Lib.hid hgrF
              replace hGrF := Lib.hid hGrF
              go_wp2_with fail
              show _ ∧ _
              replace hAF := hAF.out
              replace hXF := hXF.out
              replace hRF := hRF.out
              replace hgrF := hgrF.out
              replace hGrF := hGrF.out
              refine ⟨hXF, ?_⟩
              refine anyS_one 14 (by kernel_rfl) rfl ?_
              go_wp2_with fail
              show _ ∧ _
              refine ⟨hXF, anyS_end (by kernel_rfl) ?_⟩
              have hGrk := Lib.hid (rowG_drop hGrF hlen.out)
              have hseq := Lib.hid (hse.trans (searchM_none hxh hgx))
              replace hXF := Lib.hid hXF
              replace hRF := Lib.hid hRF
              replace hgrF := Lib.hid hgrF
              clear hse hgx hAF hGrF
              generalize ((w4.setCell ⟨W.heap.size, 0, none⟩ (.int .i64 0)).setCell ⟨W.heap.size, 1, none⟩ (.slice none 0 0)) = WF at *
              go_wp2
              go_roundw
              case rel => exact ⟨x + 1, by omega, rfl, hseq.out, hgrF.out, hGrk.out, hXF.out, hRF.out⟩
              case measure => simp [intOf]; omega
          | some r =>
            obtain ⟨q', vs⟩ := r
            have IHx := Lib.hid (fun W' h1 h2 => (show Calls Try.prog 75 #[gV n B N, .slice (some ⟨G, 0, none⟩) (k + 1) n, .int .i64 (left - x)] W' (CompR base G n (k + 1) (ws ++ [x]) (some (q', vs)) W') by
              have := IH.out x W' hx0 hx9 hxl h1 h2
              rw [← hg.out, hgx] at this
              exact this))
            go_wp2
            refine wp_region_S (fun W => Blk W w.heap.size 60 #[.int .i64 (n : Nat), .slice (some ⟨B, 0, none⟩) N N]) (by kernel_rfl) ?_
            show wpAnyS _ _ _ _ _ (14 + 1) _ _ _
            replace hgr : w.grownBy wr.drew (some G) := ⟨hgr.os, hgr.tape, hgr.output, hgr.size, hgr.block⟩
            replace hGr : rowG wr.drew base G k n ws := hGr
            replace hX : Blk wr.drew w.heap.size 60 #[.int .i64 (n : Nat), .slice (some ⟨B, 0, none⟩) N N] := hX
            replace hR : Blk wr.drew (w.heap.size + 1) 24 #[.int .i64 0, .slice none 0 0] := hR
            clear x0 x1 xl
            generalize wr.drew = W at *
            refine anyS_pure 1 (.slice (some ⟨G, 0, none⟩) k n) rfl (by kernel_rfl) (by kernel_rfl) (by kernel_rfl) (fun _ _ _ h => h) (by rfl) (fun w _ => by go_simp) hX ?_
            refine anyS_pure 2 (.int .i64 x) rfl (by kernel_rfl) (by kernel_rfl) (by kernel_rfl) (fun _ _ _ h => h) (by rfl) (fun w _ => by go_simp) hX ?_
            refine anyS_pure 5 (.int .i64 left) rfl (by kernel_rfl) (by kernel_rfl) (by kernel_rfl) (fun _ _ _ h => h) (by rfl) (fun w _ => by go_simp) hX ?_
            refine anyS_pure 6 (.int .i64 x) rfl (by kernel_rfl) (by kernel_rfl) (by kernel_rfl) (fun _ _ _ h => h) (by rfl) (fun w _ => by go_simp) hX ?_
            refine anyS_pure 7 (.int .i64 (left - x)) rfl (by kernel_rfl) (by kernel_rfl) (by kernel_rfl) (fun _ _ _ h => h) (by rfl) (fun w _ => by go_simp) hX ?_
            refine anyS_pure 0 (gV n B N) rfl (by kernel_rfl) (by kernel_rfl) (by kernel_rfl) (fun _ _ _ h => h) (by rfl) (fun W hW => by have y0 := hW.c 0 rfl; have y1 := hW.c 1 rfl; go_simp) hX ?_
            try simp only [Act.put, List.setIfInBounds_toArray]
            refine anyS_two 3 12 (by kernel_rfl) rfl rfl ?_ ?_
            · go_wp2_with fail
              show _ ∧ _
              have hC : Blk ((W).alloc (.cells #[.int .i64 x] 3)) (W.heap.size) 3 #[.int .i64 x] := by
                have h9 := Blk.new (W) 3 #[.int .i64 x]
                first | exact h9 | simpa using h9
              replace hgr := grown_trans hgr (grown_below (b1 (W) (.cells #[.int .i64 x] 3)) (some G))
              replace hGr := owns_next hGr (b1 (W) (.cells #[.int .i64 x] 3))
              replace hX := hX.alloc (.cells #[.int .i64 x] 3)
              replace hR := hR.alloc (.cells #[.int .i64 x] 3)
              refine ⟨hX, ?_⟩
              try simp only [Act.put, List.setIfInBounds_toArray, List.set_cons_zero, List.set_cons_succ]
              refine anyS_two 4 12 (by kernel_rfl) rfl rfl ?_ ?_
              · refine wpList_append_fits _ rfl _ _ 22 rfl base 3 i0 1 Try.underlying22 G0.out G2.out G k n _ rfl hGr ⟨_, 0, none⟩ 1 1 [.int .i64 x] rfl rfl (blk_one hC) (by simp [Value.oneCell']) (by omega) ?_
                intro w3 hw3 hg3
                show _ ∧ _
                rw [← lI_snoc] at hw3
                replace hGr := hw3
                clear hw3
                replace hgr := grown_trans hgr hg3
                replace hX := hX.grown hg3 (by simpa using hwG)
                replace hR := hR.grown hg3 (by simpa using hwG1)
                refine ⟨hX, ?_⟩
                try simp only [Act.put, List.setIfInBounds_toArray]
                refine anyS_two 8 12 (by kernel_rfl) rfl rfl ?_ ?_
                · go_wp2_with (go_at_call 75; refine (IHx.out _ (hB.out.grown hgr (by simpa using hBG)) hGr).mono ?_; rintro e w4 ⟨hg4, rfl, hw4⟩)
                  show _ ∧ _
                  replace hgr := grown_trans hgr hg4
                  replace hX := hX.grown hg4 (by simpa using hwG)
                  replace hR := hR.grown hg4 (by simpa using hwG1)
                  refine ⟨hX, ?_⟩
                  try simp only [Act.put, List.setIfInBounds_toArray, List.set_cons_zero, List.set_cons_succ]
                  refine anyS_pure 9 (bodyB q' (.slice (some ⟨G, 0, none⟩) n n) true) rfl (by kernel_rfl) (by kernel_rfl) (by kernel_rfl) (fun _ _ _ h => h) (by rfl) (fun w _ => by go_simp) hX ?_
                  refine anyS_pure 10 (.agg #[.int .i64 q', .slice (some ⟨G, 0, none⟩) n n]) rfl (by kernel_rfl) (by kernel_rfl) (by kernel_rfl) (fun _ _ _ h => h) (by rfl) (fun w _ => by go_simp) hX ?_
                  refine anyS_pure 11 (.bool true) rfl (by kernel_rfl) (by kernel_rfl) (by kernel_rfl) (fun _ _ _ h => h) (by rfl) (fun w _ => by go_simp) hX ?_
                  try simp only [Act.put, List.setIfInBounds_toArray]
                  refine anyS_one 12 (by kernel_rfl) rfl ?_
                  go_wp2_with fail
                  show _ ∧ _
                  refine ⟨hX.alloc _, ?_⟩
                  try simp only [Act.put, List.setIfInBounds_toArray, List.set_cons_zero, List.set_cons_succ]
                  refine anyS_one 13 (by kernel_rfl) rfl ?_
                  have hAF := Blk.new w4 24 #[(.int .i64 q'), (.slice (some ⟨G, 0, none⟩) n n)]
                  have hXF := hX.alloc (.cells #[(.int .i64 q'), (.slice (some ⟨G, 0, none⟩) n n)] 24)
                  have hRF := hR.alloc (.cells #[(.int .i64 q'), (.slice (some ⟨G, 0, none⟩) n n)] 24)
                  have hgrF := grown_trans hgr (grown_below (b1 w4 (.cells #[(.int .i64 q'), (.slice (some ⟨G, 0, none⟩) n n)] 24)) (some G))
                  have hGrF : rowG _ base G n n vs := owns_next hw4 (b1 w4 (.cells #[(.int .i64 q'), (.slice (some ⟨G, 0, none⟩) n n)] 24))
                  clear hX hR hgr hw4 hGr hC
                  replace hAF := Lib.hid hAF
                  replace hXF := Lib.hid hXF
                  replace hRF := Lib.hid hRF
                  replace hgrF := Lib.hid hgrF
                  replace hGrF := Lib.hid hGrF
                  go_wp2_with fail
                  show _ ∧ _
                  replace hAF := hAF.out
                  replace hXF := hXF.out
                  replace hRF := hRF.out
                  replace hgrF := hgrF.out
                  replace hGrF := hGrF.out
                  refine ⟨hXF, ?_⟩
                  refine anyS_one 14 (by kernel_rfl) rfl ?_
                  go_wp2_with fail
                  show _ ∧ _
                  refine ⟨hXF, anyS_end (by kernel_rfl) ?_⟩
                  have r0 := hRF.c 0 rfl
                  have r1 := hRF.c 1 rfl
                  have rl := hRF.lt
                  have f0 := hRF.fr 0
                  have f1 := hRF.fr 1
                  have a0 := hAF.c 0 rfl
                  have a1 := hAF.c 1 rfl
                  have hS := hRF.set2 (.int .i64 q') (.slice (some ⟨G, 0, none⟩) n n)
                  have s0 := hS.c 0 rfl
                  have s1 := hS.c 1 rfl
                  replace hS := Lib.hid hS
                  replace hXF := Lib.hid hXF
                  replace hRF := Lib.hid hRF
                  replace hAF := Lib.hid hAF
                  generalize w4.alloc (.cells #[(.int .i64 q'), (.slice (some ⟨G, 0, none⟩) n n)] 24) = WF at *
                  go_wp2
                  refine bodyPost_ret (v := bodyB q' (.slice (some ⟨G, 0, none⟩) n n) true) (by simp [results, Try.results75, go_sem, s0, s1]) rfl ?_
                  rw [hcm.out, if_pos trivial, hse, searchM_some hxh hgx]
                  have hbl : Below w.heap.size WF ((WF.setCell ⟨w.heap.size + 1, 0, none⟩ (.int .i64 q')).setCell ⟨w.heap.size + 1, 1, none⟩ (.slice (some ⟨G, 0, none⟩) n n)) := ((Below.refl _ _).setCell (Nat.le_succ _) _).setCell (Nat.le_succ _) _
                  exact ⟨grown_low hgrF hbl, rfl, ownsRow_setCell_other (ownsRow_setCell_other hGrF (by simp [Value.ownBlock]; omega) _) (by simp [Value.ownBlock]; omega) _⟩
                · go_wp2_with fail
                  show _ ∧ _
                  have hA : Blk ((w3).alloc (.cells #[.int .i64 0, .slice none 0 0] 24)) (w3.heap.size) 24 #[.int .i64 0, .slice none 0 0] := by
                    have h9 := Blk.new (w3) 24 #[.int .i64 0, .slice none 0 0]
                    first | exact h9 | simpa using h9
                  have hAl : w.heap.size + 1 < w3.heap.size := by
                    have h9 := hR.lt
                    (try simp at h9)
                    omega
                  have hAG : G < w3.heap.size := by
                    have h9 := hgr.size
                    (try simp at h9)
                    omega
                  replace hgr := grown_trans hgr (grown_below (b1 (w3) (.cells #[.int .i64 0, .slice none 0 0] 24)) (some G))
                  replace hGr := owns_next hGr (b1 (w3) (.cells #[.int .i64 0, .slice none 0 0] 24))
                  replace hX := hX.alloc (.cells #[.int .i64 0, .slice none 0 0] 24)
                  replace hR := hR.alloc (.cells #[.int .i64 0, .slice none 0 0] 24)
                  refine ⟨hX, ?_⟩
                  try simp only [Act.put, List.setIfInBounds_toArray, List.set_cons_zero, List.set_cons_succ]
                  refine anyS_one 8 (by kernel_rfl) rfl ?_
                  go_wp2_with (go_at_call 75; refine (IHx.out _ (hB.out.grown hgr (by simpa using hBG)) hGr).mono ?_; rintro e w4 ⟨hg4, rfl, hw4⟩)
                  show _ ∧ _
                  replace hgr := grown_trans hgr hg4
                  replace hX := hX.grown hg4 (by simpa using hwG)
                  replace hR := hR.grown hg4 (by simpa using hwG1)
                  replace hA := hA.grown hg4 (by simp; omega)
                  refine ⟨hX, ?_⟩
                  try simp only [Act.put, List.setIfInBounds_toArray, List.set_cons_zero, List.set_cons_succ]
                  refine anyS_pure 9 (bodyB q' (.slice (some ⟨G, 0, none⟩) n n) true) rfl (by kernel_rfl) (by kernel_rfl) (by kernel_rfl) (fun _ _ _ h => h) (by rfl) (fun w _ => by go_simp) hX ?_
                  refine anyS_pure 10 (.agg #[.int .i64 q', .slice (some ⟨G, 0, none⟩) n n]) rfl (by kernel_rfl) (by kernel_rfl) (by kernel_rfl) (fun _ _ _ h => h) (by rfl) (fun w _ => by go_simp) hX ?_
                  refine anyS_pure 11 (.bool true) rfl (by kernel_rfl) (by kernel_rfl) (by kernel_rfl) (fun _ _ _ h => h) (by rfl) (fun w _ => by go_simp) hX ?_
                  try simp only [Act.put, List.setIfInBounds_toArray]
                  refine anyS_one 13 (by kernel_rfl) rfl ?_
                  have a0 := hA.c 0 rfl
                  have a1 := hA.c 1 rfl
                  have af0 := hA.fr 0
                  have af1 := hA.fr 1
                  have al := hA.lt
                  have hAF := hA.set2 (.int .i64 q') (.slice (some ⟨G, 0, none⟩) n n)
                  have hXF := (hX.other (B' := w3.heap.size) (i := 0) (by omega) (.int .i64 q')).other (B' := w3.heap.size) (i := 1) (by omega) (.slice (some ⟨G, 0, none⟩) n n)
                  have hRF := (hR.other (B' := w3.heap.size) (i := 0) (by omega) (.int .i64 q')).other (B' := w3.heap.size) (i := 1) (by omega) (.slice (some ⟨G, 0, none⟩) n n)
                  have hbl : Below w.heap.size w4 ((w4.setCell ⟨w3.heap.size, 0, none⟩ (.int .i64 q')).setCell ⟨w3.heap.size, 1, none⟩ (.slice (some ⟨G, 0, none⟩) n n)) := ((Below.refl _ _).setCell (show w.heap.size ≤ w3.heap.size by omega) _).setCell (show w.heap.size ≤ w3.heap.size by omega) _
                  have hgrF := grown_low hgr hbl
                  have hGrF : rowG _ base G n n vs := ownsRow_setCell_other (a := ⟨w3.heap.size, 1, none⟩) (ownsRow_setCell_other (a := ⟨w3.heap.size, 0, none⟩) hw4 (by simp [Value.ownBlock]; omega) (.int .i64 q')) (by simp [Value.ownBlock]; omega) (.slice (some ⟨G, 0, none⟩) n n)
                  clear hA hX hR hgr hbl hw4 hGr hC
                  replace hAF := Lib.hid hAF
                  replace hXF := Lib.hid hXF
                  replace hRF := Lib.hid hRF
                  replace hgrF := Lib.hid hgrF
                  replace hGrF := Lib.hid hGrF
                  go_wp2_with fail
                  show _ ∧ _
                  replace hAF := hAF.out
                  replace hXF := hXF.out
                  replace hRF := hRF.out
                  replace hgrF := hgrF.out
                  replace hGrF := hGrF.out
                  refine ⟨hXF, ?_⟩
                  refine anyS_one 14 (by kernel_rfl) rfl ?_
                  go_wp2_with fail
                  show _ ∧ _
                  refine ⟨hXF, anyS_end (by kernel_rfl) ?_⟩
                  have r0 := hRF.c 0 rfl
                  have r1 := hRF.c 1 rfl
                  have rl := hRF.lt
                  have f0 := hRF.fr 0
                  have f1 := hRF.fr 1
                  have a0 := hAF.c 0 rfl
                  have a1 := hAF.c 1 rfl
                  have hS := hRF.set2 (.int .i64 q') (.slice (some ⟨G, 0, none⟩) n n)
                  have s0 := hS.c 0 rfl
                  have s1 := hS.c 1 rfl
                  replace hS := Lib.hid hS
                  replace hXF := Lib.hid hXF
                  replace hRF := Lib.hid hRF
                  replace hAF := Lib.hid hAF
                  generalize ((w4.setCell ⟨w3.heap.size, 0, none⟩ (.int .i64 q')).setCell ⟨w3.heap.size, 1, none⟩ (.slice (some ⟨G, 0, none⟩) n n)) = WF at *
                  go_wp2
                  refine bodyPost_ret (v := bodyB q' (.slice (some ⟨G, 0, none⟩) n n) true) (by simp [results, Try.results75, go_sem, s0, s1]) rfl ?_
                  rw [hcm.out, if_pos trivial, hse, searchM_some hxh hgx]
                  have hbl : Below w.heap.size WF ((WF.setCell ⟨w.heap.size + 1, 0, none⟩ (.int .i64 q')).setCell ⟨w.heap.size + 1, 1, none⟩ (.slice (some ⟨G, 0, none⟩) n n)) := ((Below.refl _ _).setCell (Nat.le_succ _) _).setCell (Nat.le_succ _) _
                  exact ⟨grown_low hgrF hbl, rfl, ownsRow_setCell_other (ownsRow_setCell_other hGrF (by simp [Value.ownBlock]; omega) _) (by simp [Value.ownBlock]; omega) _⟩
              · go_wp2_with fail
                show _ ∧ _
                have hA : Blk ((W.alloc (.cells #[.int .i64 x] 3)).alloc (.cells #[.int .i64 0, .slice none 0 0] 24)) (W.heap.size + 1) 24 #[.int .i64 0, .slice none 0 0] := by
                  have h9 := Blk.new (W.alloc (.cells #[.int .i64 x] 3)) 24 #[.int .i64 0, .slice none 0 0]
                  first | exact h9 | simpa using h9
                have hAl : w.heap.size + 1 < W.heap.size + 1 := by
                  have h9 := hR.lt
                  (try simp at h9)
                  omega
                have hAG : G < W.heap.size + 1 := by
                  have h9 := hgr.size
                  (try simp at h9)
                  omega
                replace hgr := grown_trans hgr (grown_below (b1 (W.alloc (.cells #[.int .i64 x] 3)) (.cells #[.int .i64 0, .slice none 0 0] 24)) (some G))
                replace hGr := owns_next hGr (b1 (W.alloc (.cells #[.int .i64 x] 3)) (.cells #[.int .i64 0, .slice none 0 0] 24))
                replace hX := hX.alloc (.cells #[.int .i64 0, .slice none 0 0] 24)
                replace hR := hR.alloc (.cells #[.int .i64 0, .slice none 0 0] 24)
                replace hC := hC.alloc (.cells #[.int .i64 0, .slice none 0 0] 24)
                refine ⟨hX, ?_⟩
                try simp only [Act.put, List.setIfInBounds_toArray, List.set_cons_zero, List.set_cons_succ]
                refine anyS_one 4 (by kernel_rfl) rfl ?_
                refine wpList_append_fits _ rfl _ _ 22 rfl base 3 i0 1 Try.underlying22 G0.out G2.out G k n _ rfl hGr ⟨_, 0, none⟩ 1 1 [.int .i64 x] rfl rfl (blk_one hC) (by simp [Value.oneCell']) (by omega) ?_
                intro w3 hw3 hg3
                show _ ∧ _
                rw [← lI_snoc] at hw3
                replace hGr := hw3
                clear hw3
                replace hgr := grown_trans hgr hg3
                replace hX := hX.grown hg3 (by simpa using hwG)
                replace hR := hR.grown hg3 (by simpa using hwG1)
                replace hA := hA.grown hg3 (by simp; omega)
                refine ⟨hX, ?_⟩
                try simp only [Act.put, List.setIfInBounds_toArray]
                refine anyS_one 8 (by kernel_rfl) rfl ?_
                go_wp2_with (go_at_call 75; refine (IHx.out _ (hB.out.grown hgr (by simpa using hBG)) hGr).mono ?_; rintro e w4 ⟨hg4, rfl, hw4⟩)
                show _ ∧ _
                replace hgr := grown_trans hgr hg4
                replace hX := hX.grown hg4 (by simpa using hwG)
                replace hR := hR.grown hg4 (by simpa using hwG1)
                replace hA := hA.grown hg4 (by simp; omega)
                refine ⟨hX, ?_⟩
                try simp only [Act.put, List.setIfInBounds_toArray, List.set_cons_zero, List.set_cons_succ]
                refine anyS_pure 9 (bodyB q' (.slice (some ⟨G, 0, none⟩) n n) true) rfl (by kernel_rfl) (by kernel_rfl) (by kernel_rfl) (fun _ _ _ h => h) (by rfl) (fun w _ => by go_simp) hX ?_
                refine anyS_pure 10 (.agg #[.int .i64 q', .slice (some ⟨G, 0, none⟩) n n]) rfl (by kernel_rfl) (by kernel_rfl) (by kernel_rfl) (fun _ _ _ h => h) (by rfl) (fun w _ => by go_simp) hX ?_
                refine anyS_pure 11 (.bool true) rfl (by kernel_rfl) (by kernel_rfl) (by kernel_rfl) (fun _ _ _ h => h) (by rfl) (fun w _ => by go_simp) hX ?_
                try simp only [Act.put, List.setIfInBounds_toArray]
                refine anyS_one 13 (by kernel_rfl) rfl ?_
                have a0 := hA.c 0 rfl
                have a1 := hA.c 1 rfl
                have af0 := hA.fr 0
                have af1 := hA.fr 1
                have al := hA.lt
                have hAF := hA.set2 (.int .i64 q') (.slice (some ⟨G, 0, none⟩) n n)
                have hXF := (hX.other (B' := W.heap.size + 1) (i := 0) (by omega) (.int .i64 q')).other (B' := W.heap.size + 1) (i := 1) (by omega) (.slice (some ⟨G, 0, none⟩) n n)
                have hRF := (hR.other (B' := W.heap.size + 1) (i := 0) (by omega) (.int .i64 q')).other (B' := W.heap.size + 1) (i := 1) (by omega) (.slice (some ⟨G, 0, none⟩) n n)
                have hbl : Below w.heap.size w4 ((w4.setCell ⟨W.heap.size + 1, 0, none⟩ (.int .i64 q')).setCell ⟨W.heap.size + 1, 1, none⟩ (.slice (some ⟨G, 0, none⟩) n n)) := ((Below.refl _ _).setCell (show w.heap.size ≤ W.heap.size + 1 by omega) _).setCell (show w.heap.size ≤ W.heap.size + 1 by omega) _
                have hgrF := grown_low hgr hbl
                have hGrF : rowG _ base G n n vs := ownsRow_setCell_other (a := ⟨W.heap.size + 1, 1, none⟩) (ownsRow_setCell_other (a := ⟨W.heap.size + 1, 0, none⟩) hw4 (by simp [Value.ownBlock]; omega) (.int .i64 q')) (by simp [Value.ownBlock]; omega) (.slice (some ⟨G, 0, none⟩) n n)
                clear hA hX hR hgr hbl hw4 hGr hC
                replace hAF := Lib.hid hAF
                replace hXF := Lib.hid hXF
                replace hRF := Lib.hid hRF
                replace hgrF := Lib.hid hgrF
                replace hGrF := Lib.hid hGrF
                go_wp2_with fail
                show _ ∧ _
                replace hAF := hAF.out
                replace hXF := hXF.out
                replace hRF := hRF.out
                replace hgrF := hgrF.out
                replace hGrF := hGrF.out
                refine ⟨hXF, ?_⟩
                refine anyS_one 14 (by kernel_rfl) rfl ?_
                go_wp2_with fail
                show _ ∧ _
                refine ⟨hXF, anyS_end (by kernel_rfl) ?_⟩
                have r0 := hRF.c 0 rfl
                have r1 := hRF.c 1 rfl
                have rl := hRF.lt
                have f0 := hRF.fr 0
                have f1 := hRF.fr 1
                have a0 := hAF.c 0 rfl
                have a1 := hAF.c 1 rfl
                have hS := hRF.set2 (.int .i64 q') (.slice (some ⟨G, 0, none⟩) n n)
                have s0 := hS.c 0 rfl
                have s1 := hS.c 1 rfl
                replace hS := Lib.hid hS
                replace hXF := Lib.hid hXF
                replace hRF := Lib.hid hRF
                replace hAF := Lib.hid hAF
                generalize ((w4.setCell ⟨W.heap.size + 1, 0, none⟩ (.int .i64 q')).setCell ⟨W.heap.size + 1, 1, none⟩ (.slice (some ⟨G, 0, none⟩) n n)) = WF at *
                go_wp2
                refine bodyPost_ret (v := bodyB q' (.slice (some ⟨G, 0, none⟩) n n) true) (by simp [results, Try.results75, go_sem, s0, s1]) rfl ?_
                rw [hcm.out, if_pos trivial, hse, searchM_some hxh hgx]
                have hbl : Below w.heap.size WF ((WF.setCell ⟨w.heap.size + 1, 0, none⟩ (.int .i64 q')).setCell ⟨w.heap.size + 1, 1, none⟩ (.slice (some ⟨G, 0, none⟩) n n)) := ((Below.refl _ _).setCell (Nat.le_succ _) _).setCell (Nat.le_succ _) _
                exact ⟨grown_low hgrF hbl, rfl, ownsRow_setCell_other (ownsRow_setCell_other hGrF (by simp [Value.ownBlock]; omega) _) (by simp [Value.ownBlock]; omega) _⟩
            · go_wp2_with fail
              show _ ∧ _
              have hA : Blk ((W).alloc (.cells #[.int .i64 0, .slice none 0 0] 24)) (W.heap.size) 24 #[.int .i64 0, .slice none 0 0] := by
                have h9 := Blk.new (W) 24 #[.int .i64 0, .slice none 0 0]
                first | exact h9 | simpa using h9
              have hAl : w.heap.size + 1 < W.heap.size := by
                have h9 := hR.lt
                (try simp at h9)
                omega
              have hAG : G < W.heap.size := by
                have h9 := hgr.size
                (try simp at h9)
                omega
              replace hgr := grown_trans hgr (grown_below (b1 (W) (.cells #[.int .i64 0, .slice none 0 0] 24)) (some G))
              replace hGr := owns_next hGr (b1 (W) (.cells #[.int .i64 0, .slice none 0 0] 24))
              replace hX := hX.alloc (.cells #[.int .i64 0, .slice none 0 0] 24)
              replace hR := hR.alloc (.cells #[.int .i64 0, .slice none 0 0] 24)
              refine ⟨hX, ?_⟩
              try simp only [Act.put, List.setIfInBounds_toArray, List.set_cons_zero, List.set_cons_succ]
              refine anyS_one 3 (by kernel_rfl) rfl ?_
              go_wp2_with fail
              show _ ∧ _
              have hC : Blk ((W.alloc (.cells #[.int .i64 0, .slice none 0 0] 24)).alloc (.cells #[.int .i64 x] 3)) (W.heap.size + 1) 3 #[.int .i64 x] := by
                have h9 := Blk.new (W.alloc (.cells #[.int .i64 0, .slice none 0 0] 24)) 3 #[.int .i64 x]
                first | exact h9 | simpa using h9
              replace hgr := grown_trans hgr (grown_below (b1 (W.alloc (.cells #[.int .i64 0, .slice none 0 0] 24)) (.cells #[.int .i64 x] 3)) (some G))
              replace hGr := owns_next hGr (b1 (W.alloc (.cells #[.int .i64 0, .slice none 0 0] 24)) (.cells #[.int .i64 x] 3))
              replace hX := hX.alloc (.cells #[.int .i64 x] 3)
              replace hR := hR.alloc (.cells #[.int .i64 x] 3)
              replace hA := hA.alloc (.cells #[.int .i64 x] 3)
              refine ⟨hX, ?_⟩
              try simp only [Act.put, List.setIfInBounds_toArray, List.set_cons_zero, List.set_cons_succ]
              refine anyS_one 4 (by kernel_rfl) rfl ?_
              refine wpList_append_fits _ rfl _ _ 22 rfl base 3 i0 1 Try.underlying22 G0.out G2.out G k n _ rfl hGr ⟨_, 0, none⟩ 1 1 [.int .i64 x] rfl rfl (blk_one hC) (by simp [Value.oneCell']) (by omega) ?_
              intro w3 hw3 hg3
              show _ ∧ _
              rw [← lI_snoc] at hw3
              replace hGr := hw3
              clear hw3
              replace hgr := grown_trans hgr hg3
              replace hX := hX.grown hg3 (by simpa using hwG)
              replace hR := hR.grown hg3 (by simpa using hwG1)
              replace hA := hA.grown hg3 (by simp; omega)
              refine ⟨hX, ?_⟩
              try simp only [Act.put, List.setIfInBounds_toArray]
              refine anyS_one 8 (by kernel_rfl) rfl ?_
              go_wp2_with (go_at_call 75; refine (IHx.out _ (hB.out.grown hgr (by simpa using hBG)) hGr).mono ?_; rintro e w4 ⟨hg4, rfl, hw4⟩)
              show _ ∧ _
              replace hgr := grown_trans hgr hg4
              replace hX := hX.grown hg4 (by simpa using hwG)
              replace hR := hR.grown hg4 (by simpa using hwG1)
              replace hA := hA.grown hg4 (by simp; omega)
              refine ⟨hX, ?_⟩
              try simp only [Act.put, List.setIfInBounds_toArray, List.set_cons_zero, List.set_cons_succ]
              refine anyS_pure 9 (bodyB q' (.slice (some ⟨G, 0, none⟩) n n) true) rfl (by kernel_rfl) (by kernel_rfl) (by kernel_rfl) (fun _ _ _ h => h) (by rfl) (fun w _ => by go_simp) hX ?_
              refine anyS_pure 10 (.agg #[.int .i64 q', .slice (some ⟨G, 0, none⟩) n n]) rfl (by kernel_rfl) (by kernel_rfl) (by kernel_rfl) (fun _ _ _ h => h) (by rfl) (fun w _ => by go_simp) hX ?_
              refine anyS_pure 11 (.bool true) rfl (by kernel_rfl) (by kernel_rfl) (by kernel_rfl) (fun _ _ _ h => h) (by rfl) (fun w _ => by go_simp) hX ?_
              try simp only [Act.put, List.setIfInBounds_toArray]
              refine anyS_one 13 (by kernel_rfl) rfl ?_
              have a0 := hA.c 0 rfl
              have a1 := hA.c 1 rfl
              have af0 := hA.fr 0
              have af1 := hA.fr 1
              have al := hA.lt
              have hAF := hA.set2 (.int .i64 q') (.slice (some ⟨G, 0, none⟩) n n)
              have hXF := (hX.other (B' := W.heap.size) (i := 0) (by omega) (.int .i64 q')).other (B' := W.heap.size) (i := 1) (by omega) (.slice (some ⟨G, 0, none⟩) n n)
              have hRF := (hR.other (B' := W.heap.size) (i := 0) (by omega) (.int .i64 q')).other (B' := W.heap.size) (i := 1) (by omega) (.slice (some ⟨G, 0, none⟩) n n)
              have hbl : Below w.heap.size w4 ((w4.setCell ⟨W.heap.size, 0, none⟩ (.int .i64 q')).setCell ⟨W.heap.size, 1, none⟩ (.slice (some ⟨G, 0, none⟩) n n)) := ((Below.refl _ _).setCell (show w.heap.size ≤ W.heap.size by omega) _).setCell (show w.heap.size ≤ W.heap.size by omega) _
              have hgrF := grown_low hgr hbl
              have hGrF : rowG _ base G n n vs := ownsRow_setCell_other (a := ⟨W.heap.size, 1, none⟩) (ownsRow_setCell_other (a := ⟨W.heap.size, 0, none⟩) hw4 (by simp [Value.ownBlock]; omega) (.int .i64 q')) (by simp [Value.ownBlock]; omega) (.slice (some ⟨G, 0, none⟩) n n)
              clear hA hX hR hgr hbl hw4 hGr hC
              replace hAF := Lib.hid hAF
              replace hXF := Lib.hid hXF
              replace hRF := Lib.hid hRF
              replace hgrF := Lib.hid hgrF
              replace hGrF := Lib.hid hGrF
              go_wp2_with fail
              show _ ∧ _
              replace hAF := hAF.out
              replace hXF := hXF.out
              replace hRF := hRF.out
              replace hgrF := hgrF.out
              replace hGrF := hGrF.out
              refine ⟨hXF, ?_⟩
              refine anyS_one 14 (by kernel_rfl) rfl ?_
              go_wp2_with fail
              show _ ∧ _
              refine ⟨hXF, anyS_end (by kernel_rfl) ?_⟩
              have r0 := hRF.c 0 rfl
              have r1 := hRF.c 1 rfl
              have rl := hRF.lt
              have f0 := hRF.fr 0
              have f1 := hRF.fr 1
              have a0 := hAF.c 0 rfl
              have a1 := hAF.c 1 rfl
              have hS := hRF.set2 (.int .i64 q') (.slice (some ⟨G, 0, none⟩) n n)
              have s0 := hS.c 0 rfl
              have s1 := hS.c 1 rfl
              replace hS := Lib.hid hS
              replace hXF := Lib.hid hXF
              replace hRF := Lib.hid hRF
              replace hAF := Lib.hid hAF
              generalize ((w4.setCell ⟨W.heap.size, 0, none⟩ (.int .i64 q')).setCell ⟨W.heap.size, 1, none⟩ (.slice (some ⟨G, 0, none⟩) n n)) = WF at *
              go_wp2
              refine bodyPost_ret (v := bodyB q' (.slice (some ⟨G, 0, none⟩) n n) true) (by simp [results, Try.results75, go_sem, s0, s1]) rfl ?_
              rw [hcm.out, if_pos trivial, hse, searchM_some hxh hgx]
              have hbl : Below w.heap.size WF ((WF.setCell ⟨w.heap.size + 1, 0, none⟩ (.int .i64 q')).setCell ⟨w.heap.size + 1, 1, none⟩ (.slice (some ⟨G, 0, none⟩) n n)) := ((Below.refl _ _).setCell (Nat.le_succ _) _).setCell (Nat.le_succ _) _
              exact ⟨grown_low hgrF hbl, rfl, ownsRow_setCell_other (ownsRow_setCell_other hGrF (by simp [Value.ownBlock]; omega) _) (by simp [Value.ownBlock]; omega) _⟩
        · have hxe : hi < x := by omega
          have r0 := hR.c 0 rfl
          have r1 := hR.c 1 rfl
          have rl := hR.lt
          have f0 := hR.fr 0
          have f1 := hR.fr 1
          have hS := hR.set2 (.int .i64 0) (.slice none 0 0)
          have s0 := hS.c 0 rfl
          have s1 := hS.c 1 rfl
          replace hS := Lib.hid hS
          replace hX := Lib.hid hX
          replace hR := Lib.hid hR
          go_wp2
          refine bodyPost_ret (v := bodyB 0 (.slice none 0 0) false) (by simp [results, Try.results75, go_sem, s0, s1]) rfl ?_
          rw [hcm.out, if_pos trivial, hse, searchM_over hxe]
          have hbl : Below w.heap.size wr ((wr.setCell ⟨w.heap.size + 1, 0, none⟩ (.int .i64 0)).setCell ⟨w.heap.size + 1, 1, none⟩ (.slice none 0 0)) := ((Below.refl _ _).setCell (Nat.le_succ _) _).setCell (Nat.le_succ _) _
          exact ⟨grown_low hgr hbl, rfl, ownsRow_setCell_other (ownsRow_setCell_other hGr (by simp [Value.ownBlock]; omega) _) (by simp [Value.ownBlock]; omega) _⟩
end Go.Proofs.Ytnnndooagpkgmaa
