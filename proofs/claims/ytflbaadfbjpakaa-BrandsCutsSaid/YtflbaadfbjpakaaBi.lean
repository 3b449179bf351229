/- Layer 2: all triangles of a brand, by the specification. -/
import Derived.Test.YtflbaadfbjpakaaBh
namespace Go.Proofs.Ytflbaadfbjpakaa
open Go Go.RowKit

set_option maxRecDepth 100000 in
set_option maxHeartbeats 4000000 in
theorem refTriangles_any (n : Nat) (a : Option Addr) (m cp : Nat) (L : List (Int × Int)) (w : World) (h : Prs w a L) (hl : L.length = m) (hm : m ≤ 4611686018427387904) (h1 : 1 ≤ n) (h2 : n ≤ 12) :
    Calls Try.prog 53 #[.int .i64 n, .slice a m cp] w fun e w' => ∃ v, e = .returned v ∧ w'.ownsRow w.heap.size 29 3 v (tris n L).length (cT (tris n L)) ∧ Below w.heap.size w w' := by
  obtain ⟨i0, hi, hz0, hz1, hz2⟩ := info_parts infoT3
  have G0 := Lib.hid hi
  have G1 := Lib.hid hz0
  have G2 := Lib.hid hz1
  have G3 := Lib.hid hz2
  clear hi hz0 hz1 hz2
  have K : ∀ W, Below w.heap.size w W → ∀ x y : Nat, x < y → y ≤ 12 → Calls Try.prog 45 #[.int .i64 n, .slice a m cp, .int .i64 x, .int .i64 y] W (Only (.bool (nearB n L x y)) W) := fun W hW x y hx hy => refNear_any a m cp L n x y W (h.next hW) hl hm (by omega) (by omega) (by omega) (by omega) (by omega) (by omega)
  replace K := Lib.hid K
  clear hl h
  go_enter Try.func53, Try.ntmps53
  go_wp2
  go_loopw [5, 6] (fun v i wr => ∃ x : Nat, x ≤ n ∧ i = .int .i64 x ∧ wr.ownsRow (w.heap.size) 29 3 v (triA (nearB n L) n x).length (cT (triA (nearB n L) n x)) ∧ Below w.heap.size w wr) (fun _ i _ => n - (intOf i).toNat)
  case atStart => exact ⟨0, by omega, rfl, World.ownsRow_nil _ _ _ _, Below.refl _ _⟩
  case round =>
    obtain ⟨x, hx, rfl, hown, B0⟩ := hrel
    by_cases hxn : x < n
    · skip
      have hx0 : (x : Int) < (n : Int) := by omega
      go_wp2
      go_loopw [5, 7] (fun v i wr => ∃ y : Nat, x + 1 ≤ y ∧ y ≤ n ∧ i = .int .i64 y ∧ wr.ownsRow (w.heap.size) 29 3 v (triA (nearB n L) n x ++ triB (nearB n L) n x y).length (cT (triA (nearB n L) n x ++ triB (nearB n L) n x y)) ∧ Below w.heap.size w wr) (fun _ i _ => n - (intOf i).toNat)
      case atStart => exact ⟨x + 1, by omega, by omega, by go_num, by rw [triB_low _ _ _ _ (Nat.le_refl _), List.append_nil]; exact hown, B0⟩
      case round =>
        clear B0 hown
        obtain ⟨y, hxy, hy, rfl, hown, B0⟩ := hrel
        by_cases hyn : y < n
        · have hy0 : (y : Int) < (n : Int) := by omega
          go_wp2
          go_loopw [5, 8] (fun v i wr => ∃ z : Nat, y + 1 ≤ z ∧ z ≤ n ∧ i = .int .i64 z ∧ wr.ownsRow (w.heap.size) 29 3 v (triA (nearB n L) n x ++ triB (nearB n L) n x y ++ triC (nearB n L) x y z).length (cT (triA (nearB n L) n x ++ triB (nearB n L) n x y ++ triC (nearB n L) x y z)) ∧ Below w.heap.size w wr) (fun _ i _ => n - (intOf i).toNat)
          case atStart => exact ⟨y + 1, by omega, by omega, by go_num, by rw [triC_low _ _ _ _ (Nat.le_refl _), List.append_nil]; exact hown, B0⟩
          case round =>
            clear B0 hown
            obtain ⟨z, hyz, hz, rfl, hown, B0⟩ := hrel
            by_cases hzn : z < n
            · have hz0 : (z : Int) < (n : Int) := by omega
              have hlen := tri_bound (nearB n L) h2 hx hy hz
              cases g1 : nearB n L x y
              · have g2 := True.intro
                have g3 := True.intro
                go_wp2_with (go_at_call 45; refine (K.out _ B0 _ _ (by omega) (by omega)).mono ?_; rintro e w1 ⟨rfl, rfl⟩)
                go_roundw
                case rel => exact ⟨z + 1, by omega, by omega, by go_num, by rw [triC, if_neg (by simp [g1]), List.append_nil]; exact hown, B0⟩
                case measure => simp [intOf]; omega
              · cases g2 : nearB n L y z
                · have g3 := True.intro
                  go_wp2_with (go_at_call 45; refine (K.out _ B0 _ _ (by omega) (by omega)).mono ?_; rintro e w1 ⟨rfl, rfl⟩)
                  go_roundw
                  case rel => exact ⟨z + 1, by omega, by omega, by go_num, by rw [triC, if_neg (by simp [g1, g2]), List.append_nil]; exact hown, B0⟩
                  case measure => simp [intOf]; omega
                · cases g3 : nearB n L x z
                  · go_wp2_with (go_at_call 45; refine (K.out _ B0 _ _ (by omega) (by omega)).mono ?_; rintro e w1 ⟨rfl, rfl⟩)
                    go_roundw
                    case rel => exact ⟨z + 1, by omega, by omega, by go_num, by rw [triC, if_neg (by simp [g1, g2, g3]), List.append_nil]; exact hown, B0⟩
                    case measure => simp [intOf]; omega
                  · go_wp2_with (first
                      | (go_at_call 45; refine (K.out _ B0 _ _ (by omega) (by omega)).mono ?_; rintro e w1 ⟨rfl, rfl⟩)
                      | (at_builtin; refine wpList_append_own _ rfl _ _ 25 rfl (w.heap.size) 29 i0 (.agg #[.int .i64 0, .int .i64 0, .int .i64 0]) 3 24 Try.underlying25 G0.out G1.out G2.out G3.out rfl (by decide) _ _ _ rfl (hown.alloc _) ⟨_, 0, none⟩ 1 1 [.int .i64 (x : Int), .int .i64 (y : Int), .int .i64 (z : Int)] rfl rfl (cell_three_new _ _ _ _ _) (by simp [Value.oneCell']) (by unfold maxLen; omega) (by omega) (by have := B0.size; simp; omega) ?_; intro v' w3 hown3 hgrow3 _))
                    have hs := B0.size
                    replace B0 := (B0.alloc hs _).grown hgrow3 (by simp; omega) (fun k hk => by have := (hown.lt k hk).1; omega)
                    go_roundw
                    case rel => exact ⟨z + 1, by omega, by omega, by go_num, by rw [triC, if_pos ⟨by omega, g1, g2, g3⟩, ← List.append_assoc, cT_append, List.length_append]; exact hown3, B0⟩
                    case measure => simp [intOf]; omega
            · go_wp2
              go_roundw
              case rel => exact ⟨y + 1, by omega, by omega, by go_num, by rw [triB, if_pos (by omega), ← List.append_assoc]; rw [show z = n by omega] at hown; exact hown, B0⟩
              case measure => simp [intOf]; omega
        · go_wp2
          go_roundw
          case rel => exact ⟨x + 1, by omega, by go_num, by rw [triA]; rw [show y = n by omega] at hown; exact hown, B0⟩
          case measure => simp [intOf]; omega
    · go_wp2
      go_ret
      exact ⟨_, rfl, by rw [show x = n by omega] at hown; exact own_base hown (by omega), B0⟩
end Go.Proofs.Ytflbaadfbjpakaa
