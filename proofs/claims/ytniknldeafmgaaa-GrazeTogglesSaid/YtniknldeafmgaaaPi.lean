/- Layer 8, the law of rounds and ends, by the specification. -/
import Derived.Test.YtniknldeafmgaaaHm
import Derived.Test.YtniknldeafmgaaaPg
namespace Go.Proofs.Ytniknldeafmgaaa
set_option linter.unusedSimpArgs false
set_option linter.unusedVariables false
open Go Go.RowKit

theorem cell_other {w : World} {g G i j : Nat} {x v : Value} (h : w.cell? ⟨g, j, none⟩ = some x) (hne : g ≠ G) : (w.setCell ⟨G, i, none⟩ v).cell? ⟨g, j, none⟩ = some x := by
  have hb : (w.setCell ⟨G, i, none⟩ v).heap[g]? = w.heap[g]? := Below.heap_setCell w ⟨G, i, none⟩ v g (show g ≠ G from hne)
  exact (World.cell?_of_block (a := ⟨g, _, none⟩) hb).trans h
theorem ints_off {w : World} {g G i : Nat} {xs : List Int} {v : Value} (h : Ints w (some ⟨g, 0, none⟩) xs) (hne : g ≠ G) : Ints (w.setCell ⟨G, i, none⟩ v) (some ⟨g, 0, none⟩) xs := by
  rcases h with h | ⟨b, off, e, hc⟩
  · exact .inl h
  · cases e
    exact .inr ⟨g, 0, rfl, fun k hk => cell_other (hc k hk) hne⟩
/-- The rows of a table, as far as they lie in the table's own block. -/
def Lies (u : World) (t n : Nat) (G : List (Nat × Nat)) : Prop := ∀ s, s < G.length → u.cell? ⟨t, s, none⟩ = some (.slice (some ⟨(gth G s).1, 0, none⟩) n (gth G s).2)
theorem Lies.next {u u' : World} {t n : Nat} {G : List (Nat × Nat)} (h : Lies u t n G) (B : Below u.heap.size u u') : Lies u' t n G := fun s hs => cellB B (h s hs)
theorem Lies.set {u : World} {t n K : Nat} {v : Value} {G : List (Nat × Nat)} (h : Lies u t n G) (hne : t ≠ K) : Lies (u.setCell ⟨K, 0, none⟩ v) t n G := fun s hs => cell_other (h s hs) hne
/-- A table with its rows from r on. -/
def Whole (u : World) (t n : Nat) (L : List (Nat → Nat)) (G : List (Nat × Nat)) (r : Nat) : Prop := Lies u t n G ∧ ∀ s, r ≤ s → s < G.length → Ints u (some ⟨(gth G s).1, 0, none⟩) (stL n (fAt L s))
theorem Whole.next {u u' : World} {t n r : Nat} {L : List (Nat → Nat)} {G : List (Nat × Nat)} (h : Whole u t n L G r) (B : Below u.heap.size u u') : Whole u' t n L G r := ⟨h.1.next B, fun s h1 h2 => (h.2 s h1 h2).next B⟩
theorem Whole.set {u : World} {t n r r' K : Nat} {L : List (Nat → Nat)} {v : Value} {G : List (Nat × Nat)} (h : Whole u t n L G r) (hr : r ≤ r') (ht : t ≠ K) (hne : ∀ s, r' ≤ s → s < G.length → (gth G s).1 ≠ K) : Whole (u.setCell ⟨K, 0, none⟩ v) t n L G r' :=
  ⟨h.1.set ht, fun s h1 h2 => ints_off (h.2 s (by omega) h2) (hne s h1 h2)⟩
theorem whole_of {w : World} {base base' n k g c : Nat} {e : TypeId} {L : List (Nat → Nat)} {G : List (Nat × Nat)} (hT : TabB base n L w G) (hk : G.length = k) (ho : w.ownsRow base' e 1 (.slice (some ⟨g, 0, none⟩) k c) k (rowsV n G)) : Whole w g n L G 0 := by
  subst hk
  refine ⟨fun s hs => ?_, fun s _ hs => ints_cells (hT.1 s hs).2.2⟩
  rw [ho.cellAt s (by omega), rowsV_get hs]
/-- The rows from r on may be written to. -/
def FrzF (u : World) (G : List (Nat × Nat)) (r : Nat) : Prop := ∀ s, r ≤ s → s < G.length → (gth G s).1 < u.heap.size ∧ u.frozen? ⟨(gth G s).1, 0, none⟩ = false
theorem FrzF.next {u u' : World} {G : List (Nat × Nat)} {r : Nat} (h : FrzF u G r) (B : Below u.heap.size u u') : FrzF u' G r := fun s hs hs2 => by
  obtain ⟨h1, h2⟩ := h s hs hs2
  have := B.size
  exact ⟨by omega, (World.frozen?_of_block (a := ⟨(gth G s).1, 0, none⟩) (B.block _ h1)).trans h2⟩
theorem FrzF.set {u : World} {K r : Nat} {v : Value} {G : List (Nat × Nat)} (h : FrzF u G r) (hne : ∀ s, r < s → s < G.length → (gth G s).1 ≠ K) : FrzF (u.setCell ⟨K, 0, none⟩ v) G (r + 1) := fun s hs hs2 => by
  obtain ⟨h1, h2⟩ := h s (by omega) hs2
  have hb : (u.setCell ⟨K, 0, none⟩ v).heap[(gth G s).1]? = u.heap[(gth G s).1]? := Below.heap_setCell u ⟨K, 0, none⟩ v _ (hne s (by omega) hs2)
  exact ⟨by simpa [World.setCell] using h1, (World.frozen?_of_block (a := ⟨(gth G s).1, 0, none⟩) hb).trans h2⟩
/-- Plots as pairs of numbers. -/
def zQ (L : List (Nat × Nat)) : List (Int × Int) := L.map fun p => ((p.1 : Int), (p.2 : Int))
theorem zQ_len (L : List (Nat × Nat)) : (zQ L).length = L.length := by simp [zQ]
theorem ownQ {W : World} {base : Nat} {v : Value} {L : List (Nat × Nat)} (h : W.ownsRow base 31 2 v L.length (cQ L)) : ∃ a c, v = .slice a L.length c ∧ Prs W a (zQ L) := by
  obtain ⟨a, c, rfl, _⟩ := own_slice' h
  refine ⟨a, c, rfl, ?_⟩
  by_cases h0 : L.length = 0
  · exact .inl (by rw [zQ_len]; exact h0)
  · obtain ⟨g, cap, e⟩ := own_pos h (by omega)
    cases e
    refine .inr ⟨g, 0, rfl, fun i hi => ?_⟩
    rw [zQ_len] at hi
    obtain ⟨q0, q1⟩ := cQ_at L i hi
    have hp : pth (zQ L) i = (((L.getD i (0, 0)).1 : Int), ((L.getD i (0, 0)).2 : Int)) := by simp [pth, zQ, hi]
    rw [hp, Nat.zero_add]
    exact ⟨by rw [h.cellAt (i * 2) (by omega)]; exact q0, by rw [h.cellAt (i * 2 + 1) (by omega)]; exact q1⟩
theorem same_pairs (L : List (Int × Int)) (n : Nat) (hl : L.length = n) (hn : n ≤ 1000) (a a' : Option Addr) (c c' : Nat) (w : World) (h : Prs w a L) (h' : Prs w a' L) : Calls Try.prog 31 #[.slice a n c, .slice a' n c'] w (Ret (.bool true) w) := by
  have := pairs_any a a' n n c c' L L w h h' hl hl (by omega) (by omega)
  rwa [decide_eq_true rfl] at this
/-- Plots of two kinds were returned, to be read. -/
def EndsG (x y : List (Int × Int)) (n m : Nat) (w : World) (e : Ending) (w' : World) : Prop := ∃ a1 c1 a2 c2, e = .returned (.tuple #[.slice a1 n c1, .slice a2 m c2, .int .i64 0]) ∧ Prs w' a1 x ∧ Prs w' a2 y ∧ Below w.heap.size w w'
theorem EndsR.got {a b : Nat} {g : Nat → Nat} {w w' : World} {e : Ending} (h : EndsR a b g w e w') : EndsG (zQ (plT (isE a g) b a)) (zQ (plT (isN b g) b a)) (plT (isE a g) b a).length (plT (isN b g) b a).length w e w' := by
  obtain ⟨v1, v2, rfl, h1, h2, h3⟩ := h
  obtain ⟨a1, c1, rfl, p1⟩ := ownQ h1
  obtain ⟨a2, c2, rfl, p2⟩ := ownQ h2
  exact ⟨a1, c1, a2, c2, rfl, p1, p2, h3⟩
/-- Rows were returned, to be read. -/
def RowsY (a T : Nat) (L : List (Nat → Nat)) (w : World) (e : Ending) (w' : World) : Prop := ∃ B c, e = .returned (.tuple #[.slice (some ⟨B, 0, none⟩) T c, .int .i64 0]) ∧ RowsI w' B a L ∧ Below w.heap.size w w'
/-- Rows were returned, to be written to. -/
def RowsW (a T : Nat) (L : List (Nat → Nat)) (w : World) (e : Ending) (w' : World) : Prop := ∃ t c G, e = .returned (.tuple #[.slice (some ⟨t, 0, none⟩) T c, .int .i64 0]) ∧ G.length = T ∧ Whole w' t a L G 0 ∧ FrzF w' G 0 ∧ (∀ s, s < T → t ≠ (gth G s).1 ∧ w.heap.size ≤ (gth G s).1) ∧ (∀ s q, s < q → q < T → (gth G q).1 ≠ (gth G s).1) ∧ Below w.heap.size w w'
theorem RowsF.got {a T : Nat} {L : List (Nat → Nat)} {w w' : World} {e : Ending} (h : RowsF a L w e w') (hl : L.length = T) (h0 : 0 < T) (ha : 0 < a) : RowsW a T L w e w' := by
  obtain ⟨v, G, rfl, hG, ho, hT, hF, hB⟩ := h
  obtain ⟨t, c, rfl⟩ := own_pos ho (by omega)
  have hGT : G.length = T := by omega
  refine ⟨t, c, G, by rw [hGT], hGT, whole_of hT rfl ho, fun s _ hs => hF s hs, fun s hs => ⟨fun e => hT.apart ha rfl ho (r := s) (by omega) (by rw [← e]; rfl), (hT.1 s (by omega)).1⟩, fun s q h hq => ?_, hB⟩
  have := hT.2 s q h (by omega)
  omega
set_option maxRecDepth 100000 in
set_option maxHeartbeats 4000000 in
theorem rounds_good (A B T : Nat) (g : Nat → Nat) (ad : Option Addr) (c : Nat) (w : World) (hs : IsS A B g) (hT : IsT A B g T) (hI : Ints w ad (stL A g)) :
    Calls Try.prog 5 #[.int .i64 (A : Int), .int .i64 (B : Int), .slice ad A c] w (Ret (.bool true) w) := by
  have h1 := hT.t1
  have h2 := hT.tl
  have ha1 := hs.p.a1
  have ha := hs.p.a6
  have hb := hs.p.b6
  have hlg := Lib.hid (stL_len A g)
  have hLl := itL_len A B g T
  have RF : Hid (∀ ad c w, Ints w ad (stL A g) → Calls Try.prog 27 #[.int .i64 (A : Int), .int .i64 (B : Int), .slice ad A c] w (RowsY A T (itL A B g T) w)) := Lib.hid (fun ad c w h => by have := refRound_yes A B T g ad c w hs hT h; unfold GotR at this; rw [hLl] at this; exact this)
  have PF : Hid (∀ ad c w, Ints w ad (stL A g) → Calls Try.prog 28 #[.int .i64 (A : Int), .int .i64 (B : Int), .slice ad A c] w (RowsW A T (itL A B g T) w)) := Lib.hid (fun ad c w h => (RoundF_yes A B T g ad c w hs hT h).mono fun _ _ k => k.got hLl h1 (by omega))
  have EP := Lib.hid (fun ad c w h => (Ends_yes A B g ad c w hs h).mono fun _ _ k => k.got)
  have ER := Lib.hid (fun ad c w h => (refEnds_yes A B g ad c w hs h).mono fun _ _ k => k.got)
  obtain ⟨n1, hn1⟩ : ∃ n, Hid ((plT (isE A g) B A).length = n) := ⟨_, Lib.hid rfl⟩
  obtain ⟨n2, hn2⟩ : ∃ n, Hid ((plT (isN B g) B A).length = n) := ⟨_, Lib.hid rfl⟩
  have hAB : A * B ≤ 36 := Nat.mul_le_mul ha hb
  have hb1 : n1 ≤ 1000 := by have := plT_len (isE A g) B A; rw [hn1.out] at this; omega
  have hb2 : n2 ≤ 1000 := by have := plT_len (isN B g) B A; rw [hn2.out] at this; omega
  have hz1 := zQ_len (plT (isE A g) B A)
  have hz2 := zQ_len (plT (isN B g) B A)
  rw [hn1.out] at hz1 EP ER
  rw [hn2.out] at hz2 EP ER
  generalize zQ (plT (isE A g) B A) = Q1 at *
  generalize zQ (plT (isN B g) B A) = Q2 at *
  have S1 := Lib.hid (same_pairs Q1 n1 hz1 hb1)
  have S2 := Lib.hid (same_pairs Q2 n2 hz2 hb2)
  have S3 := Lib.hid (same_xs (stL A g) A hlg.out (by omega))
  have hSL := Lib.hid (fun r => stL_len A (fAt (itL A B g T) r))
  clear hz1 hz2 hn1 hn2 hb1 hb2 hAB hs hT
  generalize itL A B g T = L at *
  replace hLl := Lib.hid hLl
  obtain ⟨Z0, off0, rfl, _⟩ := ints_at hI (by rw [stL_len]; omega)
  replace hI := Lib.hid hI
  have hlen' : (A : Int) ≤ 20 := by omega
  have hd20 : decide ((20 : Int) < (A : Int)) = false := decide_eq_false (by omega)
  have hs0 := Lib.hid (World.ownsRow_lit (base := w.heap.size) (e := 3) (size := 1) w #[] 0 (Nat.le_refl _) (by unfold maxLen; omega) rfl)
  have hIo := Lib.hid (hI.out.next (b1 w (.cells #[] 3)))
  go_enter Try.func5, Try.ntmps5
  go_upto_region 4 with (at_builtin; refine wpList_copy rfl _ _ rfl w.heap.size _ rfl hs0.out _ A c (stL A g) rfl hIo.out hlg.out (by simp) (by omega) (by simp) ?_; intro ao co w1 hown1 hg1 hco hJ)
  have B1 := (b1 w (.cells #[] 3)).grown hg1 (by simp) (fun q hq => by have := (hs0.out.lt q hq).1; omega)
  replace hI := Lib.hid (hI.out.next B1)
  replace hJ := Lib.hid hJ
  have Bw := Lib.hid B1
  clear hs0 hIo hown1 hg1 B1
  go_wp2_with (go_at_call 27; (with_reducible refine (RF.out _ _ _ hI.out).mono ?_); rintro _ w2 ⟨By, cy, rfl, hY, hw2⟩)
  replace hI := Lib.hid (hI.out.next hw2)
  replace hJ := Lib.hid (hJ.out.next hw2)
  replace Bw := Lib.hid (nextB Bw.out hw2)
  replace hY := Lib.hid hY
  clear hw2 RF
  go_loopw [10] (fun i wr => ∃ t : Nat, t ≤ 2 ∧ i = .int .i64 (t : Int) ∧ Ints wr (some ⟨Z0, off0, none⟩) (stL A g) ∧ Ints wr ao (stL A g) ∧ RowsI wr By A L ∧ Below w.heap.size w wr) (fun i _ => 2 - (intOf i).toNat)
  case atStart => exact ⟨0, Nat.zero_le _, rfl, hI.out, hJ.out, hY.out, Bw.out⟩
  case round =>
    clear hI hJ hY Bw
    obtain ⟨t, ht, rfl, hI, hJ, hY, Bw⟩ := hrel
    replace hI := Lib.hid hI
    replace hJ := Lib.hid hJ
    replace hY := Lib.hid hY
    replace Bw := Lib.hid Bw
    by_cases hlt : t < 2
    · go_wp2_with (go_at_call 28; (with_reducible refine (PF.out _ _ _ hJ.out).mono ?_); rintro _ w4 ⟨ta, ca, G, rfl, hG, hWA, hF, hs1, hs2, hw4⟩)
      replace hG := Lib.hid hG
      replace hs1 := Lib.hid hs1
      replace hs2 := Lib.hid hs2
      replace hWA := Lib.hid hWA
      replace hF := Lib.hid hF
      have Bc := Lib.hid hw4
      clear hw4
      go_loopw [13] (fun i wq => ∃ r : Nat, r ≤ T ∧ i = .int .i64 (r : Int) ∧ Whole wq ta A L G r ∧ FrzF wq G r ∧ Below wr.heap.size wr wq) (fun i _ => T - (intOf i).toNat)
      case atStart => exact ⟨0, Nat.zero_le _, rfl, hWA.out, hF.out, Bc.out⟩
      case round =>
        clear hWA hF Bc
        obtain ⟨r, hr, rfl, hWA, hF, Bc⟩ := hrel
        by_cases hlr : r < T
        · have la := hWA.1 r (by rw [hG.out]; exact hlr)
          have hxa := Lib.hid (hWA.2 r (Nat.le_refl _) (by rw [hG.out]; exact hlr))
          obtain ⟨ar, cr, lb, hxb⟩ := (hY.out.next Bc) r (by rw [hLl.out]; exact hlr)
          replace hxb := Lib.hid hxb
          obtain ⟨f1, f2⟩ := hF r (Nat.le_refl _) (by rw [hG.out]; exact hlr)
          have hy := cells_ints hxa.out 0 (by omega)
          obtain ⟨t1, t5⟩ := hs1.out r hlr
          have t4 := Lib.hid (fun q (h : r < q) (hq : q < G.length) => hs2.out r q h (by rw [← hG.out]; exact hq))
          have hSr := Lib.hid (same_xs _ A (hSL.out r) (by omega))
          replace hWA := Lib.hid hWA
          replace hF := Lib.hid hF
          have i0 : (0 : Int) ≤ (r : Int) := by omega
          have i1 : (r : Int) < (T : Int) := by omega
          generalize (gth G r).2 = cA at *
          generalize hKK : (gth G r).1 = K at *
          replace hKK := Lib.hid hKK
          have S := Lib.hid (fun W (b : Below wr.heap.size wr W) => hSr.out (some ⟨K, 0, none⟩) ar cA cr W (hxa.out.next b) (hxb.out.next b))
          replace hxa := hxa.out
          replace hxa := Lib.hid hxa
          generalize stL A (fAt L r) = X at *
          generalize fAt L r 0 = y at *
          have la0 := Lib.hid la
          have hy0 := Lib.hid hy
          have f10 := Lib.hid f1
          have f20 := Lib.hid f2
          replace la := cellX la
          replace lb := cellX lb
          have PE := Lib.hid (fun (x : Ext wr) => S.out x.world x.ok)
          clear hy f1 f2
          go_wp2_with (fail)
          refine wp_region_ext (by kernel_rfl) (by kernel_rfl) ?_
          repeat (go_big_quiet_step ((go_at_call 18; exact callE (PE.out _))))
          refine wpQuiet_nil ?_
          rintro ⟨w6, hw6⟩
          dsimp only
          clear la lb PE S
          have la := cellB hw6 la0.out
          have hy6 := cellB hw6 hy0.out
          have f3 : w6.frozen? ⟨K, 0, none⟩ = false := (World.frozen?_of_block (a := ⟨K, 0, none⟩) (hw6.block _ f10.out)).trans f20.out
          have f4 : K < w6.heap.size := Nat.lt_of_lt_of_le f10.out hw6.size
          replace hWA := Lib.hid (hWA.out.next hw6)
          replace hF := Lib.hid (hF.out.next hw6)
          replace Bc := Lib.hid (nextB Bc hw6)
          clear hw6 la0 hy0 f10 f20
          have l0 : (0 : Int) < (A : Int) := by omega
          have mW := Lib.hid (hWA.out.set (K := K) (v := .int .i64 (-8)) (r' := r + 1) (by omega) t1 (fun q h1 h2 => by have := t4.out q (by omega) h2; exact this))
          have mF := Lib.hid (hF.out.set (K := K) (v := .int .i64 (-8)) (fun q h1 h2 => by have := t4.out q h1 h2; exact this))
          have mB := Lib.hid (Bc.out.setCell (p := ⟨K, 0, none⟩) t5 (.int .i64 (-8)))
          go_wp2_with (fail)
          go_roundw
          case rel => exact ⟨r + 1, by omega, by go_num, mW.out, mF.out, mB.out⟩
          case measure => simp [intOf]; omega
        · obtain rfl : r = T := by omega
          replace hWA := Lib.hid hWA
          replace hF := Lib.hid hF
          have mI := Lib.hid (hI.out.next Bc)
          have mJ := Lib.hid (hJ.out.next Bc)
          have mY := Lib.hid (hY.out.next Bc)
          have mB := Lib.hid (nextB Bw.out Bc)
          replace Bc := Lib.hid Bc
          go_wp2_with (fail)
          go_roundw
          case rel => exact ⟨t + 1, by omega, by go_num, mI.out, mJ.out, mY.out, mB.out⟩
          case measure => simp [intOf]; omega
    · obtain rfl : t = 2 := by omega
      go_wp2_with (first
        | (go_at_call 29; (with_reducible refine (EP.out _ _ _ hJ.out).mono ?_); rintro _ w5 ⟨p1, d1, p2, d2, rfl, k1, k2, hb⟩; replace k1 := Lib.hid k1; replace k2 := Lib.hid k2; replace hI := Lib.hid (hI.out.next hb); replace hJ := Lib.hid (hJ.out.next hb); replace Bw := Lib.hid (nextB Bw.out hb); clear hb)
        | (go_at_call 30; (with_reducible refine (ER.out _ _ _ hI.out).mono ?_); rintro _ w6 ⟨q1, e1, q2, e2, rfl, m1, m2, hb⟩; replace m1 := Lib.hid m1; replace m2 := Lib.hid m2; replace k1 := Lib.hid (k1.out.next hb); replace k2 := Lib.hid (k2.out.next hb); replace hI := Lib.hid (hI.out.next hb); replace hJ := Lib.hid (hJ.out.next hb); replace Bw := Lib.hid (nextB Bw.out hb); clear hb)
        | (go_at_call 31; (with_reducible refine (S1.out p1 q1 d1 e1 _ k1.out m1.out).mono ?_); rintro _ w7 ⟨rfl, hb⟩; clear k1 m1; replace k2 := Lib.hid (k2.out.next hb); replace m2 := Lib.hid (m2.out.next hb); replace hI := Lib.hid (hI.out.next hb); replace hJ := Lib.hid (hJ.out.next hb); replace Bw := Lib.hid (nextB Bw.out hb); clear hb)
        | (go_at_call 31; (with_reducible refine (S2.out p2 q2 d2 e2 _ k2.out m2.out).mono ?_); rintro _ w8 ⟨rfl, hb⟩; clear k2 m2; replace hI := Lib.hid (hI.out.next hb); replace hJ := Lib.hid (hJ.out.next hb); replace Bw := Lib.hid (nextB Bw.out hb); clear hb)
        | (go_at_call 18; (with_reducible refine (S3.out _ _ _ _ _ hJ.out hI.out).mono ?_); rintro _ w9 ⟨rfl, hb⟩; replace Bw := Lib.hid (nextB Bw.out hb); clear hb)
        | (go_at_call 15; refine (alive_any _).mono ?_; rintro _ w10 ⟨rfl, hw10⟩))
      go_ret
      exact ⟨rfl, nextB Bw.out hw10⟩
end Go.Proofs.Ytniknldeafmgaaa
