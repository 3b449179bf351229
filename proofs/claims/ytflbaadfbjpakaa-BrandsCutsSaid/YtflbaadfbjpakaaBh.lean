/- Layer 2: all triangles of a brand, by the program. -/
import Derived.Test.YtflbaadfbjpakaaBg
import Derived.RangeFuncBox
namespace Go.Proofs.Ytflbaadfbjpakaa
open Go Go.RowKit

abbrev Tri := Nat × Nat × Nat
/-- The triangles with the corners a and b, whose third corner is below k. -/
def triC (P : Nat → Nat → Bool) (a b : Nat) : Nat → List Tri
  | 0 => []
  | k + 1 => triC P a b k ++ if b < k ∧ P a b = true ∧ P b k = true ∧ P a k = true then [(a, b, k)] else []
def triB (P : Nat → Nat → Bool) (n a : Nat) : Nat → List Tri
  | 0 => []
  | k + 1 => triB P n a k ++ if a < k then triC P a k n else []
def triA (P : Nat → Nat → Bool) (n : Nat) : Nat → List Tri
  | 0 => []
  | k + 1 => triA P n k ++ triB P n k n
/-- Are two corners joined? -/
def nearB (n : Nat) (L : List (Int × Int)) (i k : Nat) : Bool := decide (NearP n L i k)
/-- The triangles. -/
def tris (n : Nat) (L : List (Int × Int)) : List Tri := triA (nearB n L) n n
theorem triC_low (P : Nat → Nat → Bool) (a b : Nat) : ∀ k, k ≤ b + 1 → triC P a b k = [] := by
  intro k
  induction k with
  | zero => intro _; rfl
  | succ k ih => intro h; rw [triC, ih (by omega), if_neg (by omega)]; rfl
theorem triB_low (P : Nat → Nat → Bool) (n a : Nat) : ∀ k, k ≤ a + 1 → triB P n a k = [] := by
  intro k
  induction k with
  | zero => intro _; rfl
  | succ k ih => intro h; rw [triB, ih (by omega), if_neg (by omega)]; rfl
theorem triC_len (P : Nat → Nat → Bool) (a b k : Nat) : (triC P a b k).length ≤ k := by
  induction k with
  | zero => simp [triC]
  | succ k ih => rw [triC, List.length_append]; split <;> simp <;> omega
theorem triB_len (P : Nat → Nat → Bool) (n a k : Nat) : (triB P n a k).length ≤ k * n := by
  induction k with
  | zero => simp [triB]
  | succ k ih =>
    rw [triB, List.length_append, Nat.add_mul]
    have := triC_len P a k n
    split <;> simp <;> omega
theorem triA_len (P : Nat → Nat → Bool) (n k : Nat) : (triA P n k).length ≤ k * (n * n) := by
  induction k with
  | zero => simp [triA]
  | succ k ih =>
    rw [triA, List.length_append, Nat.add_mul]
    have := triB_len P n k n
    omega
theorem tri_bound {n a b c : Nat} (P : Nat → Nat → Bool) (h1 : n ≤ 12) (h2 : a ≤ n) (h3 : b ≤ n) (h4 : c ≤ n) : (triA P n a ++ triB P n a b ++ triC P a b c).length ≤ 3000 := by
  have e1 := triA_len P n a
  have e2 := triB_len P n a b
  have e3 := triC_len P a b c
  have f1 : a * (n * n) ≤ 12 * (12 * 12) := Nat.mul_le_mul (by omega) (Nat.mul_le_mul h1 h1)
  have f2 : b * n ≤ 12 * 12 := Nat.mul_le_mul (by omega) h1
  simp only [List.length_append]
  omega
/-- The cells of triangles. -/
def cT (T : List Tri) : List Value := T.flatMap fun t => [.int .i64 t.1, .int .i64 t.2.1, .int .i64 t.2.2]
theorem cT_append (S T : List Tri) : cT (S ++ T) = cT S ++ cT T := by simp [cT]
theorem infoT3 : (Try.prog.info? 29).map (fun i => (i.zero, i.size, i.bytes)) = some (some (.agg #[.int .i64 0, .int .i64 0, .int .i64 0]), 3, 24) := by kernel_rfl
/-- The three cells of a block that has just been laid. -/
theorem cell_three_new (w : World) (a b c : Int) (t : TypeId) : ∀ j u, [Value.int .i64 a, .int .i64 b, .int .i64 c][j]? = some u → (w.alloc (.cells #[.int .i64 a, .int .i64 b, .int .i64 c] t)).cell? (Addr.add ⟨w.heap.size, 0, none⟩ j) = some u := by
  intro j u hj
  have hl : j < 3 := (List.getElem?_eq_some_iff.1 hj).1
  have ha : Addr.add ⟨w.heap.size, 0, none⟩ j = ⟨w.heap.size, j, none⟩ := by simp [Addr.add]; omega
  rw [ha]
  exact (Blk.new w t _).c j (by rw [← hj]; simp)

theorem Blk.grown {w w' : World} {row : Option Nat} {B : Nat} {t : TypeId} {cs : Array Value} (h : Blk w B t cs) (hg : w.grownBy w' row) (hne : some B ≠ row) : Blk w' B t cs := (hg.block _ h.lt hne).trans h
theorem own_ne {w : World} {base B : Nat} {e : TypeId} {size : Nat} {v : Value} {n : Nat} {xs : List Value} (h : w.ownsRow base e size v n xs) (hB : B < base) : some B ≠ v.ownBlock := fun hh => by
  have := (h.lt B hh.symm).1
  omega
theorem own_base {w : World} {base base' : Nat} {e : TypeId} {size : Nat} {v : Value} {n : Nat} {xs : List Value} (h : w.ownsRow base e size v n xs) (hb : base' ≤ base) : w.ownsRow base' e size v n xs := by
  obtain ⟨h1, h2⟩ := h
  refine ⟨h1, ?_⟩
  rcases h2 with h2 | ⟨g, cap, cur, hv, hg, r⟩
  · exact .inl h2
  · exact .inr ⟨g, cap, cur, hv, by omega, r⟩

set_option maxRecDepth 100000 in
set_option maxHeartbeats 4000000 in
theorem triangles_any (n : Nat) (a : Option Addr) (m cp : Nat) (L : List (Int × Int)) (w : World) (h : Prs w a L) (hl : L.length = m) (hm : m ≤ 4611686018427387904) (h1 : 1 ≤ n) (h2 : n ≤ 12) :
    Calls Try.prog 52 #[.agg #[.int .i64 n, .slice a m cp]] w fun e w' => ∃ v, e = .returned v ∧ w'.ownsRow w.heap.size 29 3 v (tris n L).length (cT (tris n L)) ∧ Below w.heap.size w w' := by
  obtain ⟨i0, hi, hz0, hz1, hz2⟩ := info_parts infoT3
  have G0 := Lib.hid hi
  have G1 := Lib.hid hz0
  have G2 := Lib.hid hz1
  have G3 := Lib.hid hz2
  clear hi hz0 hz1 hz2
  have J := fun (x y : Nat) W hW (hx : x ≤ 12) (hy : y ≤ 12) => joined_any a m cp L n x y W hW hl hm (by omega) (by omega) (by omega) (by omega) (by omega)
  have K : ∀ W, Below w.heap.size w W → ∀ x y : Nat, x ≤ 12 → y ≤ 12 → Calls Try.prog 74 #[.agg #[.int .i64 n, .slice a m cp], .int .i64 x, .int .i64 y] W (Ret (.bool (nearB n L x y)) W) := fun W hW x y hx hy => J x y W (h.next hW) hx hy
  replace K := Lib.hid K
  clear hl J h
  go_enter Try.func52, Try.ntmps52
  go_wp2
  have X0 := Blk.new w 66 #[.int .i64 n, .slice a m cp]
  have B0 := b1 w (.cells #[.int .i64 n, .slice a m cp] 66)
  go_loopw [3, 9] (fun v i wr => ∃ x : Nat, x ≤ n ∧ i = .int .i64 x ∧ wr.ownsRow (w.heap.size + 1) 29 3 v (triA (nearB n L) n x).length (cT (triA (nearB n L) n x)) ∧ Blk wr w.heap.size 66 #[.int .i64 n, .slice a m cp] ∧ Below w.heap.size w wr) (fun _ i _ => n - (intOf i).toNat)
  case atStart => exact ⟨0, by omega, rfl, World.ownsRow_nil _ _ _ _, X0, B0⟩
  case round =>
    clear X0 B0
    obtain ⟨x, hx, rfl, hown, X0, B0⟩ := hrel
    by_cases hxn : x < n
    · have x0 := X0.c 0 rfl
      have x1 := X0.c 1 rfl
      have hx0 : (x : Int) < (n : Int) := by omega
      go_wp2
      clear x0 x1
      go_loopw [3, 5] (fun v i wr => ∃ y : Nat, x + 1 ≤ y ∧ y ≤ n ∧ i = .int .i64 y ∧ wr.ownsRow (w.heap.size + 1) 29 3 v (triA (nearB n L) n x ++ triB (nearB n L) n x y).length (cT (triA (nearB n L) n x ++ triB (nearB n L) n x y)) ∧ Blk wr w.heap.size 66 #[.int .i64 n, .slice a m cp] ∧ Below w.heap.size w wr) (fun _ i _ => n - (intOf i).toNat)
      case atStart => exact ⟨x + 1, by omega, by omega, by go_num, by rw [triB_low _ _ _ _ (Nat.le_refl _), List.append_nil]; exact hown, X0, B0⟩
      case round =>
        clear X0 B0 hown
        obtain ⟨y, hxy, hy, rfl, hown, X0, B0⟩ := hrel
        have x0 := X0.c 0 rfl
        have x1 := X0.c 1 rfl
        by_cases hyn : y < n
        · have hy0 : (y : Int) < (n : Int) := by omega
          go_wp2
          clear x0 x1
          go_loopw [3, 6] (fun v i wr => ∃ z : Nat, y + 1 ≤ z ∧ z ≤ n ∧ i = .int .i64 z ∧ wr.ownsRow (w.heap.size + 1) 29 3 v (triA (nearB n L) n x ++ triB (nearB n L) n x y ++ triC (nearB n L) x y z).length (cT (triA (nearB n L) n x ++ triB (nearB n L) n x y ++ triC (nearB n L) x y z)) ∧ Blk wr w.heap.size 66 #[.int .i64 n, .slice a m cp] ∧ Below w.heap.size w wr) (fun _ i _ => n - (intOf i).toNat)
          case atStart => exact ⟨y + 1, by omega, by omega, by go_num, by rw [triC_low _ _ _ _ (Nat.le_refl _), List.append_nil]; exact hown, X0, B0⟩
          case round =>
            clear X0 B0 hown
            obtain ⟨z, hyz, hz, rfl, hown, X0, B0⟩ := hrel
            have x0 := X0.c 0 rfl
            have x1 := X0.c 1 rfl
            by_cases hzn : z < n
            · have hz0 : (z : Int) < (n : Int) := by omega
              have hlen := tri_bound (nearB n L) h2 hx hy hz
              cases g1 : nearB n L x y
              · have g2 := True.intro
                have g3 := True.intro
                go_wp2_with (go_at_call 74; refine (K.out _ B0 _ _ (by omega) (by omega)).mono ?_; rintro e w1 ⟨rfl, hb1⟩; clear x0 x1; replace hown := owns_next hown hb1; replace X0 := X0.ext hb1; replace B0 := nextB B0 hb1; have x0 := X0.c 0 rfl; have x1 := X0.c 1 rfl)
                clear x0 x1
                go_roundw
                case rel => exact ⟨z + 1, by omega, by omega, by go_num, by rw [triC, if_neg (by simp [g1]), List.append_nil]; exact hown, X0, B0⟩
                case measure => simp [intOf]; omega
              · cases g2 : nearB n L y z
                · have g3 := True.intro
                  go_wp2_with (go_at_call 74; refine (K.out _ B0 _ _ (by omega) (by omega)).mono ?_; rintro e w1 ⟨rfl, hb1⟩; clear x0 x1; replace hown := owns_next hown hb1; replace X0 := X0.ext hb1; replace B0 := nextB B0 hb1; have x0 := X0.c 0 rfl; have x1 := X0.c 1 rfl)
                  clear x0 x1
                  go_roundw
                  case rel => exact ⟨z + 1, by omega, by omega, by go_num, by rw [triC, if_neg (by simp [g1, g2]), List.append_nil]; exact hown, X0, B0⟩
                  case measure => simp [intOf]; omega
                · cases g3 : nearB n L x z
                  · go_wp2_with (go_at_call 74; refine (K.out _ B0 _ _ (by omega) (by omega)).mono ?_; rintro e w1 ⟨rfl, hb1⟩; clear x0 x1; replace hown := owns_next hown hb1; replace X0 := X0.ext hb1; replace B0 := nextB B0 hb1; have x0 := X0.c 0 rfl; have x1 := X0.c 1 rfl)
                    clear x0 x1
                    go_roundw
                    case rel => exact ⟨z + 1, by omega, by omega, by go_num, by rw [triC, if_neg (by simp [g1, g2, g3]), List.append_nil]; exact hown, X0, B0⟩
                    case measure => simp [intOf]; omega
                  · go_wp2_with (first
                      | (go_at_call 74; refine (K.out _ B0 _ _ (by omega) (by omega)).mono ?_; rintro e w1 ⟨rfl, hb1⟩; clear x0 x1; replace hown := owns_next hown hb1; replace X0 := X0.ext hb1; replace B0 := nextB B0 hb1; have x0 := X0.c 0 rfl; have x1 := X0.c 1 rfl)
                      | (at_builtin; refine wpList_append_own _ rfl _ _ 25 rfl (w.heap.size + 1) 29 i0 (.agg #[.int .i64 0, .int .i64 0, .int .i64 0]) 3 24 Try.underlying25 G0.out G1.out G2.out G3.out rfl (by decide) _ _ _ rfl (hown.alloc _) ⟨_, 0, none⟩ 1 1 [.int .i64 (x : Int), .int .i64 (y : Int), .int .i64 (z : Int)] rfl rfl (cell_three_new _ _ _ _ _) (by simp [Value.oneCell']) (by unfold maxLen; omega) (by omega) (by have := X0.lt; simp; omega) ?_; intro v' w3 hown3 hgrow3 _))
                    clear x0 x1
                    have hs := B0.size
                    replace X0 := (X0.alloc _).grown hgrow3 (own_ne hown (by omega))
                    replace B0 := (B0.alloc hs _).grown hgrow3 (by simp; omega) (fun k hk => by have := (hown.lt k hk).1; omega)
                    go_roundw
                    case rel => exact ⟨z + 1, by omega, by omega, by go_num, by rw [triC, if_pos ⟨by omega, g1, g2, g3⟩, ← List.append_assoc, cT_append, List.length_append]; exact hown3, X0, B0⟩
                    case measure => simp [intOf]; omega
            · go_wp2
              clear x0 x1
              go_roundw
              case rel => exact ⟨y + 1, by omega, by omega, by go_num, by rw [triB, if_pos (by omega), ← List.append_assoc]; rw [show z = n by omega] at hown; exact hown, X0, B0⟩
              case measure => simp [intOf]; omega
        · go_wp2
          clear x0 x1
          go_roundw
          case rel => exact ⟨x + 1, by omega, by go_num, by rw [triA]; rw [show y = n by omega] at hown; exact hown, X0, B0⟩
          case measure => simp [intOf]; omega
    · go_wp2
      go_ret
      exact ⟨_, rfl, by rw [show x = n by omega] at hown; exact own_base hown (by omega), B0⟩
end Go.Proofs.Ytflbaadfbjpakaa
