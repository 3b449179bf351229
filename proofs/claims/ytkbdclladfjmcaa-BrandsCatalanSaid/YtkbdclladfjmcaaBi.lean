/- Layer 2: which lists are brands: the program's test walks all lines. Layer 2: which lists are brands: the specification's test; both tests are one. Layer 2: all triangles of a brand, by the program. Layer 2: all triangles of a brand, by the specification. -/
import Derived.Test.YtkbdclladfjmcaaBe
import Derived.OneCell
import Derived.RangeFuncBox
namespace Go.Proofs.Ytkbdclladfjmcaa
section
open Go Go.RowKit

/-- Block B holds these cells. -/
def Blk (W : World) (B : Nat) (t : TypeId) (cs : Array Value) : Prop := W.heap[B]? = some (.cells cs t (0, 0))
theorem Blk.lt {W : World} {B : Nat} {t : TypeId} {cs : Array Value} (h : Blk W B t cs) : B < W.heap.size := (Array.getElem?_eq_some_iff.1 h).1
theorem Blk.ext {W W' : World} {B : Nat} {t : TypeId} {cs : Array Value} (h : Blk W B t cs) (hb : Below W.heap.size W W') : Blk W' B t cs := (hb.block _ h.lt).trans h
theorem Blk.c {W : World} {B : Nat} {t : TypeId} {cs : Array Value} (h : Blk W B t cs) (i : Nat) {v : Value} (hv : cs[i]? = some v) : W.cell? ⟨B, i, none⟩ = some v := by unfold Blk at h; simp [World.cell?, h, hv]
theorem Blk.fr {W : World} {B : Nat} {t : TypeId} {cs : Array Value} (h : Blk W B t cs) (i : Nat) : W.frozen? ⟨B, i, none⟩ = false := by unfold Blk at h; simp [World.frozen?, h]
theorem Blk.new (W : World) (t : TypeId) (cs : Array Value) : Blk (W.alloc (.cells cs t)) W.heap.size t cs := heap_alloc_new W _
theorem Blk.alloc {W : World} {B : Nat} {t : TypeId} {cs : Array Value} (h : Blk W B t cs) (o : Obj) : Blk (W.alloc o) B t cs := h.ext (b1 W o)
theorem Blk.other {W : World} {B B' i : Nat} {t : TypeId} {cs : Array Value} (h : Blk W B t cs) (hne : B ≠ B') (u : Value) : Blk (W.setCell ⟨B', i, none⟩ u) B t cs := (Below.heap_setCell W ⟨B', i, none⟩ u B hne).trans h

theorem cmpL_neg' {p q : Int × Int} : ¬ 0 ≤ cmpL p q ↔ LexP p q := by rw [← cmpL_neg]; omega
set_option maxRecDepth 100000 in
set_option maxHeartbeats 4000000 in
theorem brandOf_in (n : Int) (b off m c : Nat) (L : List (Int × Int)) (w : World) (hl : L.length = m) (h3 : 3 ≤ n) (h12 : n ≤ 12) (hmn : (m : Int) = n - 3) (hcap : m ≤ c)
    (hc : ∀ i, i < m → w.cell? ⟨b, off + i * 2, none⟩ = some (.int .i64 (pth L i).1) ∧ w.cell? ⟨b, off + i * 2 + 1, none⟩ = some (.int .i64 (pth L i).2)) :
    Calls Try.prog 13 #[.int .i64 n, .slice (some ⟨b, off, none⟩) m c] w (Ret (brandV n (some ⟨b, off, none⟩) m c (decide (BrandP n L))) w) := by
  replace hc := Lib.hid hc
  have hB : Hid (BrandP n L ↔ ∀ i, i < m → OkL n L i) := ⟨fun h i hi => h.2.2.2 i (by omega), fun h => ⟨h3, h12, by omega, fun i hi => h i (by omega)⟩⟩
  have g0 : ((m : Int) != n - 3) = false := by rw [bne_eq_false_iff_eq]; omega
  have hm9 : m ≤ 9 := by omega
  clear hl
  replace hmn := Lib.hid hmn
  go_enter Try.func13, Try.ntmps13
  go_wp2
  have R0 := Blk.new w 42 #[.int .i64 0, .slice none 0 0]
  have B0 := b1 w (.cells #[.int .i64 0, .slice none 0 0] 42)
  clear g0
  go_loopw [26] (fun i wr => ∃ k : Nat, k ≤ m ∧ i = .int .i64 k ∧ (∀ j, j < k → OkL n L j) ∧ Blk wr w.heap.size 42 #[.int .i64 0, .slice none 0 0] ∧ Below w.heap.size w wr) (fun i _ => m - (intOf i).toNat)
  case atStart => exact ⟨0, by omega, rfl, fun j hj => absurd hj (by omega), R0, B0⟩
  case round =>
    clear R0 B0
    obtain ⟨k, hk, rfl, hok, R0, B0⟩ := hrel
    by_cases hlt : k < m
    · replace hok := Lib.hid hok
      obtain ⟨e0, e1⟩ := hc.out k hlt
      replace e0 := cellB B0 e0
      replace e1 := cellB B0 e1
      have hi0 : (0 : Int) ≤ (k : Int) := by omega
      have hi1 : (k : Int) < (m : Int) := by omega
      have D := fun W => isLine_any n (pth L k).1 (pth L k).2 W (by omega) (by omega)
      go_wp2_with fail
      have X0 := Blk.new wr 29 #[.int .i64 (pth L k).1, .int .i64 (pth L k).2]
      refine calls_at (F := fun W => Blk W wr.heap.size 29 #[.int .i64 (pth L k).1, .int .i64 (pth L k).2] ∧ Below wr.heap.size wr W) ⟨X0, b1 _ _⟩ ?_
      clear X0
      rintro W ⟨X0, C0⟩
      cases g : decide (LineP n ((pth L k).1, (pth L k).2))
      all_goals rw [g] at D
      · refine (D W).mono ?_
        rintro e w1 ⟨rfl, hb1⟩
        dsimp only
        replace C0 := nextB C0 hb1
        replace R0 := R0.ext C0
        replace B0 := nextB B0 C0
        have r0 := R0.c 0 rfl
        have r1 := R0.c 1 rfl
        have f0 := R0.fr 0
        have f1 := R0.fr 1
        have hlt1 := R0.lt
        clear C0 hb1 X0 e0 e1 D
        go_wp2
        refine bodyPost_ret (v := .tuple #[.agg #[.int .i64 0, .slice none 0 0], .bool false]) (by simp [results, Try.results13, go_sem, r0, r1]) rfl ?_
        rw [brandV_no (fun h => by have := (hB.out.1 h k hlt).1; exact absurd this (of_decide_eq_false g))]
        exact Ret.mk rfl ((B0.setCell (by simp) _).setCell (by simp) _)
      · refine (D W).mono ?_
        rintro e w1 ⟨rfl, hb1⟩
        dsimp only
        replace C0 := nextB C0 hb1
        replace X0 := X0.ext hb1
        replace R0 := R0.ext C0
        replace B0 := nextB B0 C0
        have hg := Lib.hid (show LineP n (pth L k) from of_decide_eq_true g)
        have hb : b < wr.heap.size := block_lt_of_cell e0
        have hkc : k ≤ c := by omega
        clear C0 hb1 e0 e1 D g hb
        go_wp2
        generalize wr.heap.size = zr at *
        go_loopw [40] (fun i wi => ∃ j : Nat, j ≤ k ∧ i = .int .i64 j ∧ (∀ q, q < j → LexP (pth L q) (pth L k) ∧ ¬ CutP (pth L q) (pth L k)) ∧ Blk wi zr 29 #[.int .i64 (pth L k).1, .int .i64 (pth L k).2] ∧ Blk wi w.heap.size 42 #[.int .i64 0, .slice none 0 0] ∧ Below w.heap.size w wi) (fun i _ => k - (intOf i).toNat)
        case atStart => exact ⟨0, by omega, rfl, fun j hj => absurd hj (by omega), X0, R0, B0⟩
        case round =>
          clear X0 R0 B0
          obtain ⟨j, hj, rfl, hoj, X0, R0, B0⟩ := hrel
          by_cases hjk : j < k
          · replace hoj := Lib.hid hoj
            obtain ⟨e0, e1⟩ := hc.out j (by omega)
            replace e0 := cellB B0 e0
            replace e1 := cellB B0 e1
            have hj0 : (0 : Int) ≤ (j : Int) := by omega
            have hj1 : (j : Int) < (k : Int) := by omega
            have x0 := X0.c 0 rfl
            have x1 := X0.c 1 rfl
            have xlt := X0.lt
            go_wp2_with fail
            refine calls_at (F := fun W => Blk W zr 29 #[.int .i64 (pth L k).1, .int .i64 (pth L k).2] ∧ Blk W wr.heap.size 29 #[.int .i64 (pth L j).1, .int .i64 (pth L j).2] ∧ Below wr.heap.size wr W) ⟨X0.alloc _, Blk.new wr _ _, b1 _ _⟩ ?_
            rintro W ⟨X1, Y1, C0⟩
            have D := cmpL_neg' (p := pth L j) (q := pth L k)
            refine (compare_any _ _ _ _ W).mono ?_
            rintro e w2 ⟨rfl, hb2⟩
            dsimp only
            change ¬ 0 ≤ cmpL ((pth L j).1, (pth L j).2) ((pth L k).1, (pth L k).2) ↔ _ at D
            generalize cmpL ((pth L j).1, (pth L j).2) ((pth L k).1, (pth L k).2) = cv at *
            replace X1 := X1.ext hb2
            replace Y1 := Y1.ext hb2
            replace C0 := nextB C0 hb2
            replace R0 := R0.ext C0
            replace B0 := nextB B0 C0
            have x0 := X1.c 0 rfl
            have x1 := X1.c 1 rfl
            have y0 := Y1.c 0 rfl
            have y1 := Y1.c 1 rfl
            clear C0 hb2 e0 e1 X0 xlt
            by_cases hcv : 0 ≤ cv
            · have r0 := R0.c 0 rfl
              have r1 := R0.c 1 rfl
              have f0 := R0.fr 0
              have f1 := R0.fr 1
              have hlt1 := R0.lt
              replace D := Lib.hid (fun h => (D.2 h) hcv)
              go_wp2
              refine bodyPost_ret (v := .tuple #[.agg #[.int .i64 0, .slice none 0 0], .bool false]) (by simp [results, Try.results13, go_sem, r0, r1]) rfl ?_
              rw [brandV_no (fun h => D.out ((hB.out.1 h k hlt).2 j hjk).1)]
              exact Ret.mk rfl ((B0.setCell (by simp) _).setCell (by simp) _)
            · replace D := Lib.hid (D.1 hcv)
              have E := fun W => cross_any (pth L j).1 (pth L j).2 (pth L k).1 (pth L k).2 W
              cases g : decide (CutP ((pth L j).1, (pth L j).2) ((pth L k).1, (pth L k).2))
              all_goals rw [g] at E
              · have g' := Lib.hid (of_decide_eq_false g)
                clear g
                go_wp2_with (go_at_call 24; refine (E _).mono ?_; rintro e w3 ⟨rfl, hb3⟩; replace X1 := X1.ext hb3; replace R0 := R0.ext hb3; replace B0 := nextB B0 hb3)
                go_roundw
                case rel => exact ⟨j + 1, by omega, by go_num, fun q hq => (by
                  by_cases hqj : q = j
                  · subst hqj; exact ⟨D.out, g'.out⟩
                  · exact hoj.out q (by omega)), X1, R0, B0⟩
                case measure => simp [intOf]; omega
              · have g' := Lib.hid (of_decide_eq_true g)
                clear g
                go_wp2_with (go_at_call 24; refine (E _).mono ?_; rintro e w3 ⟨rfl, hb3⟩; replace R0 := R0.ext hb3; replace B0 := nextB B0 hb3; have r0 := R0.c 0 rfl; have r1 := R0.c 1 rfl; have f0 := R0.fr 0; have f1 := R0.fr 1; have hlt1 := R0.lt)
                refine bodyPost_ret (v := .tuple #[.agg #[.int .i64 0, .slice none 0 0], .bool false]) (by simp [results, Try.results13, go_sem, r0, r1]) rfl ?_
                rw [brandV_no (fun h => ((hB.out.1 h k hlt).2 j hjk).2 g'.out)]
                exact Ret.mk rfl ((B0.setCell (by simp) _).setCell (by simp) _)
          · go_wp2
            go_roundw
            case rel => exact ⟨k + 1, by omega, by go_num, fun q hq => (by
              by_cases hqk : q = k
              · subst hqk; exact ⟨hg.out, fun i hi => hoj i (by omega)⟩
              · exact hok.out q (by omega)), R0, B0⟩
            case measure => simp [intOf]; omega
    · have r0 := R0.c 0 rfl
      have r1 := R0.c 1 rfl
      have f0 := R0.fr 0
      have f1 := R0.fr 1
      have hlt1 := R0.lt
      replace hok := Lib.hid hok
      go_wp2
      refine bodyPost_ret (v := .tuple #[.agg #[.int .i64 n, .slice (some ⟨b, off, none⟩) m c], .bool true]) (by simp [results, Try.results13, go_sem, r0, r1]) rfl ?_
      rw [brandV_yes (hB.out.2 fun i hi => hok.out i (by omega))]
      exact Ret.mk rfl ((B0.setCell (by simp) _).setCell (by simp) _)
end
section
open Go Go.RowKit

theorem brandOf_any (n : Int) (a : Option Addr) (m c : Nat) (L : List (Int × Int)) (w : World) (h : Prs w a L) (hl : L.length = m) (hcap : m ≤ c) (hm : m ≤ 4611686018427387904) :
    Calls Try.prog 13 #[.int .i64 n, .slice a m c] w (Ret (brandV n a m c (decide (BrandP n L))) w) := by
  by_cases hh : 3 ≤ n ∧ n ≤ 12 ∧ (m : Int) = n - 3
  · by_cases h0 : m = 0
    · subst h0
      obtain rfl : n = 3 := by omega
      rw [brandV_yes ⟨by omega, by omega, by omega, fun i hi => absurd hi (by omega)⟩]
      exact brandOf_three a c w
    · obtain ⟨b, off, rfl, hc⟩ := prs_at h (by omega)
      rw [hl] at hc
      exact brandOf_in n b off m c L w hl hh.1 hh.2.1 hh.2.2 hcap hc
  · exact brandOf_out n a m c L w hl hm hh

/-- As the specification looks at line i. -/
def OkR (n : Int) (L : List (Int × Int)) (i : Nat) : Prop := LineP n (pth L i) ∧ (0 < i → LexP (pth L (i - 1)) (pth L i)) ∧ ∀ k, k < i → ¬ CrossP (pth L k) (pth L i)
theorem okR_all {n : Int} {L : List (Int × Int)} {m : Nat} (h : ∀ i, i < m → OkR n L i) : ∀ i, i < m → OkL n L i := by
  have lex : ∀ i, i < m → ∀ k, k < i → LexP (pth L k) (pth L i) := by
    intro i
    induction i with
    | zero => intro _ k hk; omega
    | succ i ih =>
      intro hi k hk
      have h1 := (h (i + 1) hi).2.1 (by omega)
      rw [Nat.add_sub_cancel] at h1
      by_cases hki : k = i
      · subst hki; exact h1
      · have h2 := ih (by omega) k (by omega)
        unfold LexP at *
        omega
  exact fun i hi => ⟨(h i hi).1, fun k hk => ⟨lex i hi k hk, fun hc => (h i hi).2.2 k hk (.inl hc)⟩⟩
theorem okL_all {n : Int} {L : List (Int × Int)} {i : Nat} (h : OkL n L i) : OkR n L i := by
  refine ⟨h.1, fun h0 => (h.2 _ (by omega)).1, fun k hk hc => ?_⟩
  obtain ⟨h1, h2⟩ := h.2 k hk
  rcases hc with hc | hc
  · exact h2 hc
  · unfold LexP at h1
    unfold CutP at hc
    omega

end
section
open Go Go.RowKit

abbrev Tri := Nat × Nat × Nat
/-- The triangles with the corners a and b, whose third corner is below k. -/
def triC (P : Nat → Nat → Bool) (a b : Nat) : Nat → List Tri
  | 0 => []
  | k + 1 => triC P a b k ++ if b < k ∧ P a b = true ∧ P b k = true ∧ P a k = true then [(a, b, k)] else []
def triB (P : Nat → Nat → Bool) (n a : Nat) : Nat → List Tri
  | 0 => []
  | k + 1 => triB P n a k ++ if a < k then triC P a k n else []
def triA (P : Nat → Nat → Bool) (n : Nat) : Nat → List Tri
  | 0 => []
  | k + 1 => triA P n k ++ triB P n k n
/-- Are two corners joined? -/
def nearB (n : Nat) (L : List (Int × Int)) (i k : Nat) : Bool := decide (NearP n L i k)
/-- The triangles. -/
def tris (n : Nat) (L : List (Int × Int)) : List Tri := triA (nearB n L) n n
theorem triC_low (P : Nat → Nat → Bool) (a b : Nat) : ∀ k, k ≤ b + 1 → triC P a b k = [] := by
  intro k
  induction k with
  | zero => intro _; rfl
  | succ k ih => intro h; rw [triC, ih (by omega), if_neg (by omega)]; rfl
theorem triB_low (P : Nat → Nat → Bool) (n a : Nat) : ∀ k, k ≤ a + 1 → triB P n a k = [] := by
  intro k
  induction k with
  | zero => intro _; rfl
  | succ k ih => intro h; rw [triB, ih (by omega), if_neg (by omega)]; rfl
theorem triC_len (P : Nat → Nat → Bool) (a b k : Nat) : (triC P a b k).length ≤ k := by
  induction k with
  | zero => simp [triC]
  | succ k ih => rw [triC, List.length_append]; split <;> simp <;> omega
theorem triB_len (P : Nat → Nat → Bool) (n a k : Nat) : (triB P n a k).length ≤ k * n := by
  induction k with
  | zero => simp [triB]
  | succ k ih =>
    rw [triB, List.length_append, Nat.add_mul]
    have := triC_len P a k n
    split <;> simp <;> omega
theorem triA_len (P : Nat → Nat → Bool) (n k : Nat) : (triA P n k).length ≤ k * (n * n) := by
  induction k with
  | zero => simp [triA]
  | succ k ih =>
    rw [triA, List.length_append, Nat.add_mul]
    have := triB_len P n k n
    omega
theorem tri_bound {n a b c : Nat} (P : Nat → Nat → Bool) (h1 : n ≤ 12) (h2 : a ≤ n) (h3 : b ≤ n) (h4 : c ≤ n) : (triA P n a ++ triB P n a b ++ triC P a b c).length ≤ 3000 := by
  have e1 := triA_len P n a
  have e2 := triB_len P n a b
  have e3 := triC_len P a b c
  have f1 : a * (n * n) ≤ 12 * (12 * 12) := Nat.mul_le_mul (by omega) (Nat.mul_le_mul h1 h1)
  have f2 : b * n ≤ 12 * 12 := Nat.mul_le_mul (by omega) h1
  simp only [List.length_append]
  omega
/-- The cells of triangles. -/
def cT (T : List Tri) : List Value := T.flatMap fun t => [.int .i64 t.1, .int .i64 t.2.1, .int .i64 t.2.2]
theorem cT_append (S T : List Tri) : cT (S ++ T) = cT S ++ cT T := by simp [cT]
theorem infoT3 : (Try.prog.info? 50).map (fun i => (i.zero, i.size, i.bytes)) = some (some (.agg #[.int .i64 0, .int .i64 0, .int .i64 0]), 3, 24) := by kernel_rfl
/-- The three cells of a block that has just been laid. -/
theorem cell_three_new (w : World) (a b c : Int) (t : TypeId) : ∀ j u, [Value.int .i64 a, .int .i64 b, .int .i64 c][j]? = some u → (w.alloc (.cells #[.int .i64 a, .int .i64 b, .int .i64 c] t)).cell? (Addr.add ⟨w.heap.size, 0, none⟩ j) = some u := by
  intro j u hj
  have hl : j < 3 := (List.getElem?_eq_some_iff.1 hj).1
  have ha : Addr.add ⟨w.heap.size, 0, none⟩ j = ⟨w.heap.size, j, none⟩ := by simp [Addr.add]; omega
  rw [ha]
  exact (Blk.new w t _).c j (by rw [← hj]; simp)

theorem Blk.grown {w w' : World} {row : Option Nat} {B : Nat} {t : TypeId} {cs : Array Value} (h : Blk w B t cs) (hg : w.grownBy w' row) (hne : some B ≠ row) : Blk w' B t cs := (hg.block _ h.lt hne).trans h
theorem own_ne {w : World} {base B : Nat} {e : TypeId} {size : Nat} {v : Value} {n : Nat} {xs : List Value} (h : w.ownsRow base e size v n xs) (hB : B < base) : some B ≠ v.ownBlock := fun hh => by
  have := (h.lt B hh.symm).1
  omega
theorem own_base {w : World} {base base' : Nat} {e : TypeId} {size : Nat} {v : Value} {n : Nat} {xs : List Value} (h : w.ownsRow base e size v n xs) (hb : base' ≤ base) : w.ownsRow base' e size v n xs := by
  obtain ⟨h1, h2⟩ := h
  refine ⟨h1, ?_⟩
  rcases h2 with h2 | ⟨g, cap, cur, hv, hg, r⟩
  · exact .inl h2
  · exact .inr ⟨g, cap, cur, hv, by omega, r⟩

set_option maxRecDepth 100000 in
set_option maxHeartbeats 4000000 in
theorem triangles_any (n : Nat) (a : Option Addr) (m cp : Nat) (L : List (Int × Int)) (w : World) (h : Prs w a L) (hl : L.length = m) (hm : m ≤ 4611686018427387904) (h1 : 1 ≤ n) (h2 : n ≤ 12) :
    Calls Try.prog 17 #[.agg #[.int .i64 n, .slice a m cp]] w fun e w' => ∃ v, e = .returned v ∧ w'.ownsRow w.heap.size 50 3 v (tris n L).length (cT (tris n L)) ∧ Below w.heap.size w w' := by
  obtain ⟨i0, hi, hz0, hz1, hz2⟩ := info_parts infoT3
  have G0 := Lib.hid hi
  have G1 := Lib.hid hz0
  have G2 := Lib.hid hz1
  have G3 := Lib.hid hz2
  clear hi hz0 hz1 hz2
  have J := fun (x y : Nat) W hW (hx : x ≤ 12) (hy : y ≤ 12) => joined_any a m cp L n x y W hW hl hm (by omega) (by omega) (by omega) (by omega) (by omega)
  have K : ∀ W, Below w.heap.size w W → ∀ x y : Nat, x ≤ 12 → y ≤ 12 → Calls Try.prog 25 #[.agg #[.int .i64 n, .slice a m cp], .int .i64 x, .int .i64 y] W (Ret (.bool (nearB n L x y)) W) := fun W hW x y hx hy => J x y W (h.next hW) hx hy
  replace K := Lib.hid K
  clear hl J h
  go_enter Try.func17, Try.ntmps17
  go_wp2
  have X0 := Blk.new w 42 #[.int .i64 n, .slice a m cp]
  have B0 := b1 w (.cells #[.int .i64 n, .slice a m cp] 42)
  go_loopw [3, 9] (fun v i wr => ∃ x : Nat, x ≤ n ∧ i = .int .i64 x ∧ wr.ownsRow (w.heap.size + 1) 50 3 v (triA (nearB n L) n x).length (cT (triA (nearB n L) n x)) ∧ Blk wr w.heap.size 42 #[.int .i64 n, .slice a m cp] ∧ Below w.heap.size w wr) (fun _ i _ => n - (intOf i).toNat)
  case atStart => exact ⟨0, by omega, rfl, World.ownsRow_nil _ _ _ _, X0, B0⟩
  case round =>
    clear X0 B0
    obtain ⟨x, hx, rfl, hown, X0, B0⟩ := hrel
    by_cases hxn : x < n
    · have x0 := X0.c 0 rfl
      have x1 := X0.c 1 rfl
      have hx0 : (x : Int) < (n : Int) := by omega
      go_wp2
      clear x0 x1
      go_loopw [3, 5] (fun v i wr => ∃ y : Nat, x + 1 ≤ y ∧ y ≤ n ∧ i = .int .i64 y ∧ wr.ownsRow (w.heap.size + 1) 50 3 v (triA (nearB n L) n x ++ triB (nearB n L) n x y).length (cT (triA (nearB n L) n x ++ triB (nearB n L) n x y)) ∧ Blk wr w.heap.size 42 #[.int .i64 n, .slice a m cp] ∧ Below w.heap.size w wr) (fun _ i _ => n - (intOf i).toNat)
      case atStart => exact ⟨x + 1, by omega, by omega, by go_num, by rw [triB_low _ _ _ _ (Nat.le_refl _), List.append_nil]; exact hown, X0, B0⟩
      case round =>
        clear X0 B0 hown
        obtain ⟨y, hxy, hy, rfl, hown, X0, B0⟩ := hrel
        have x0 := X0.c 0 rfl
        have x1 := X0.c 1 rfl
        by_cases hyn : y < n
        · have hy0 : (y : Int) < (n : Int) := by omega
          go_wp2
          clear x0 x1
          go_loopw [3, 6] (fun v i wr => ∃ z : Nat, y + 1 ≤ z ∧ z ≤ n ∧ i = .int .i64 z ∧ wr.ownsRow (w.heap.size + 1) 50 3 v (triA (nearB n L) n x ++ triB (nearB n L) n x y ++ triC (nearB n L) x y z).length (cT (triA (nearB n L) n x ++ triB (nearB n L) n x y ++ triC (nearB n L) x y z)) ∧ Blk wr w.heap.size 42 #[.int .i64 n, .slice a m cp] ∧ Below w.heap.size w wr) (fun _ i _ => n - (intOf i).toNat)
          case atStart => exact ⟨y + 1, by omega, by omega, by go_num, by rw [triC_low _ _ _ _ (Nat.le_refl _), List.append_nil]; exact hown, X0, B0⟩
          case round =>
            clear X0 B0 hown
            obtain ⟨z, hyz, hz, rfl, hown, X0, B0⟩ := hrel
            have x0 := X0.c 0 rfl
            have x1 := X0.c 1 rfl
            by_cases hzn : z < n
            · have hz0 : (z : Int) < (n : Int) := by omega
              have hlen := tri_bound (nearB n L) h2 hx hy hz
              cases g1 : nearB n L x y
              · have g2 := True.intro
                have g3 := True.intro
                go_wp2_with (go_at_call 25; refine (K.out _ B0 _ _ (by omega) (by omega)).mono ?_; rintro e w1 ⟨rfl, hb1⟩; clear x0 x1; replace hown := owns_next hown hb1; replace X0 := X0.ext hb1; replace B0 := nextB B0 hb1; have x0 := X0.c 0 rfl; have x1 := X0.c 1 rfl)
                clear x0 x1
                go_roundw
                case rel => exact ⟨z + 1, by omega, by omega, by go_num, by rw [triC, if_neg (by simp [g1]), List.append_nil]; exact hown, X0, B0⟩
                case measure => simp [intOf]; omega
              · cases g2 : nearB n L y z
                · have g3 := True.intro
                  go_wp2_with (go_at_call 25; refine (K.out _ B0 _ _ (by omega) (by omega)).mono ?_; rintro e w1 ⟨rfl, hb1⟩; clear x0 x1; replace hown := owns_next hown hb1; replace X0 := X0.ext hb1; replace B0 := nextB B0 hb1; have x0 := X0.c 0 rfl; have x1 := X0.c 1 rfl)
                  clear x0 x1
                  go_roundw
                  case rel => exact ⟨z + 1, by omega, by omega, by go_num, by rw [triC, if_neg (by simp [g1, g2]), List.append_nil]; exact hown, X0, B0⟩
                  case measure => simp [intOf]; omega
                · cases g3 : nearB n L x z
                  · go_wp2_with (go_at_call 25; refine (K.out _ B0 _ _ (by omega) (by omega)).mono ?_; rintro e w1 ⟨rfl, hb1⟩; clear x0 x1; replace hown := owns_next hown hb1; replace X0 := X0.ext hb1; replace B0 := nextB B0 hb1; have x0 := X0.c 0 rfl; have x1 := X0.c 1 rfl)
                    clear x0 x1
                    go_roundw
                    case rel => exact ⟨z + 1, by omega, by omega, by go_num, by rw [triC, if_neg (by simp [g1, g2, g3]), List.append_nil]; exact hown, X0, B0⟩
                    case measure => simp [intOf]; omega
                  · go_wp2_with (first
                      | (go_at_call 25; refine (K.out _ B0 _ _ (by omega) (by omega)).mono ?_; rintro e w1 ⟨rfl, hb1⟩; clear x0 x1; replace hown := owns_next hown hb1; replace X0 := X0.ext hb1; replace B0 := nextB B0 hb1; have x0 := X0.c 0 rfl; have x1 := X0.c 1 rfl)
                      | (at_builtin; refine wpList_append_own _ rfl _ _ 48 rfl (w.heap.size + 1) 50 i0 (.agg #[.int .i64 0, .int .i64 0, .int .i64 0]) 3 24 Try.underlying48 G0.out G1.out G2.out G3.out rfl (by decide) _ _ _ rfl (hown.alloc _) ⟨_, 0, none⟩ 1 1 [.int .i64 (x : Int), .int .i64 (y : Int), .int .i64 (z : Int)] rfl rfl (cell_three_new _ _ _ _ _) (by simp [Value.oneCell']) (by unfold maxLen; omega) (by omega) (by have := X0.lt; simp; omega) ?_; intro v' w3 hown3 hgrow3 _))
                    clear x0 x1
                    have hs := B0.size
                    replace X0 := (X0.alloc _).grown hgrow3 (own_ne hown (by omega))
                    replace B0 := (B0.alloc hs _).grown hgrow3 (by simp; omega) (fun k hk => by have := (hown.lt k hk).1; omega)
                    go_roundw
                    case rel => exact ⟨z + 1, by omega, by omega, by go_num, by rw [triC, if_pos ⟨by omega, g1, g2, g3⟩, ← List.append_assoc, cT_append, List.length_append]; exact hown3, X0, B0⟩
                    case measure => simp [intOf]; omega
            · go_wp2
              clear x0 x1
              go_roundw
              case rel => exact ⟨y + 1, by omega, by omega, by go_num, by rw [triB, if_pos (by omega), ← List.append_assoc]; rw [show z = n by omega] at hown; exact hown, X0, B0⟩
              case measure => simp [intOf]; omega
        · go_wp2
          clear x0 x1
          go_roundw
          case rel => exact ⟨x + 1, by omega, by go_num, by rw [triA]; rw [show y = n by omega] at hown; exact hown, X0, B0⟩
          case measure => simp [intOf]; omega
    · go_wp2
      go_ret
      exact ⟨_, rfl, by rw [show x = n by omega] at hown; exact own_base hown (by omega), B0⟩
end
section
open Go Go.RowKit
end
end Go.Proofs.Ytkbdclladfjmcaa
