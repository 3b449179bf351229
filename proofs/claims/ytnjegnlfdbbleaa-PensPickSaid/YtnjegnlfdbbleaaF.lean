/- Layer 1: simple, the program's own test of the sides. -/
import Derived.Test.YtnjegnlfdbbleaaE
namespace Go.Proofs.Ytnjegnlfdbbleaa
open Go Go.RowKit

def Ok4 (n : Nat) (p : Nat → Int × Int) (i : Nat) : Prop := p i ≠ p ((i + 1) % n) ∧ ¬ BackP (p i) (p ((i + 1) % n)) (p ((i + 2) % n))
instance (n p i) : Decidable (Ok4 n p i) := by unfold Ok4; infer_instance
/-- The sides of the n points have no more in common than those of a pen. -/
def SimP (n : Nat) (p : Nat → Int × Int) : Prop := ∀ i, i < n → Ok4 n p i ∧ ∀ k, k < n → i + 2 ≤ k → Ok2 n p i k
instance (n p) : Decidable (SimP n p) := by unfold SimP; infer_instance

set_option maxRecDepth 100000 in
set_option maxHeartbeats 4000000 in
theorem simple_any (b off n c : Nat) (p : Nat → Int × Int) (w : World) (h3 : 3 ≤ n) (h10 : n ≤ 10) (hs : ∀ i, i < n → Sm 50 (p i))
    (hc : ∀ i, i < n → w.cell? ⟨b, off + i * 2, none⟩ = some (.int .i64 (p i).1) ∧ w.cell? ⟨b, off + i * 2 + 1, none⟩ = some (.int .i64 (p i).2)) :
    Calls Try.prog 57 #[.slice (some ⟨b, off, none⟩) n c] w (Ret (.bool (decide (SimP n p))) w) := by
  have hc := Lib.hid hc
  have hs := Lib.hid hs
  go_enter Try.func57, Try.ntmps57
  go_wp2
  go_loopw [14] (fun i wr => ∃ k' : Nat, k' ≤ n ∧ i = .int .i64 k' ∧ (∀ j, j < k' → Ok4 n p j ∧ ∀ l, l < n → j + 2 ≤ l → Ok2 n p j l) ∧ Below w.heap.size w wr) (fun i _ => n - (intOf i).toNat)
  case atStart => exact ⟨0, by omega, rfl, fun j hj => absurd hj (by omega), Below.refl _ _⟩
  case round =>
    obtain ⟨i, hi, rfl, hok2, B0⟩ := hrel
    by_cases hlt : i < n
    · have hok2 := Lib.hid hok2
      have hi0 : (0 : Int) ≤ (i : Int) := by omega
      have hi1 : (i : Int) < (n : Int) := by omega
      have hq : (i + 1) % n < n := Nat.mod_lt _ (by omega)
      have hq2 : (i + 2) % n < n := Nat.mod_lt _ (by omega)
      obtain ⟨e0, e1⟩ := hc.out i hlt
      obtain ⟨f0, f1⟩ := hc.out _ hq
      obtain ⟨g0, g1⟩ := hc.out _ hq2
      replace e0 := cellB B0 e0
      replace e1 := cellB B0 e1
      replace f0 := cellB B0 f0
      replace f1 := cellB B0 f1
      replace g0 := cellB B0 g0
      replace g1 := cellB B0 g1
      obtain ⟨m0, m1, m2⟩ := mod_at1 i n (by omega)
      obtain ⟨m3, m4, m5⟩ := mod_at2 i n (by omega)
      have hb : b < wr.heap.size := block_lt_of_cell e0
      have hb1 : b < wr.heap.size + 1 := by omega
      have hb2 : b < wr.heap.size + 1 + 1 := by omega
      have S1 : Sm 1048576 ((p i).1, (p i).2) := (hs.out i hlt).mono (by omega)
      have S2 : Sm 1048576 ((p ((i + 1) % n)).1, (p ((i + 1) % n)).2) := (hs.out _ hq).mono (by omega)
      have S3 : Sm 1048576 ((p ((i + 2) % n)).1, (p ((i + 2) % n)).2) := (hs.out _ hq2).mono (by omega)
      go_wp2
      go_region
      · cases g1 : eqP ((p i).1, (p i).2) ((p ((i + 1) % n)).1, (p ((i + 1) % n)).2)
        · go_wp2_with fail
          refine calls_at (F := fun W => Box2 W (wr.heap.size) (p i).1 (p i).2 ∧ Box2 W (wr.heap.size + 1) (p ((i + 1) % n)).1 (p ((i + 1) % n)).2 ∧ Box2 W (wr.heap.size + 1 + 1) (p ((i + 2) % n)).1 (p ((i + 2) % n)).2 ∧ Below wr.heap.size wr W)
            ⟨⟨by go_simp, by go_simp⟩, ⟨by go_simp, by go_simp⟩, ⟨by go_simp, by go_simp⟩, b3d _ _ _ _⟩ ?_
          rintro W ⟨K5, K6, K7, C0⟩
          refine (turnsBack_any _ _ _ _ _ _ W (by assumption) (by assumption) (by assumption)).mono ?_
          rintro e w1 ⟨rfl, hb1⟩
          dsimp only
          replace B0 := nextB B0 (nextB C0 hb1)
          replace K5 := K5.next hb1
          replace K6 := K6.next hb1
          clear K7 C0 hb1 e0 e1 f0 f1 S3 hq2 m3 m4 m5
          cases g2 : decide (BackP ((p i).1, (p i).2) ((p ((i + 1) % n)).1, (p ((i + 1) % n)).2) ((p ((i + 2) % n)).1, (p ((i + 2) % n)).2))
          · have hO4 : Hid (Ok4 n p i) := ⟨eqP_not.1 g1, of_decide_eq_false g2⟩
            go_wp2
            go_loopw [8, 9] (fun l q wi => ∃ l' : Nat, l' ≤ n + 2 ∧ i + 2 ≤ l' ∧ l = .int .i64 l' ∧ (∀ j, j < n → i + 2 ≤ j → j < l' → Ok2 n p i j) ∧ Box2 wi (wr.heap.size) (p i).1 (p i).2 ∧ Box2 wi (wr.heap.size + 1) (p ((i + 1) % n)).1 (p ((i + 1) % n)).2 ∧ Below w.heap.size w wi) (fun l _ _ => n + 2 - (intOf l).toNat)
            case atStart => exact ⟨i + 2, by omega, by omega, by go_num, fun j _ _ _ => absurd ‹j < i + 2› (by omega), K5, K6, B0⟩
            case round =>
              clear B0 K5 K6
              obtain ⟨l, hl, hil, rfl, hok4, K5, K6, B0⟩ := hrel
              have hok4 := Lib.hid hok4
              by_cases hlk : l < n
              · have hl0 : (0 : Int) ≤ (l : Int) := by omega
                have hl1 : (l : Int) < (n : Int) := by omega
                have hql : (l + 1) % n < n := Nat.mod_lt _ (by omega)
                obtain ⟨e0, e1⟩ := hc.out l hlk
                obtain ⟨f0, f1⟩ := hc.out _ hql
                have x0 := cellX (cellB B0 e0)
                have x1 := cellX (cellB B0 e1)
                have y0 := cellX (cellB B0 f0)
                have y1 := cellX (cellB B0 f1)
                have x50 := cellX K5.1
                have x51 := cellX K5.2
                have x60 := cellX K6.1
                have x61 := cellX K6.2
                clear e0 e1 f0 f1
                obtain ⟨m0, m1, m2⟩ := mod_at1 l n (by omega)
                have T1 : Sm 1048576 ((p l).1, (p l).2) := (hs.out l hlk).mono (by omega)
                have T2 : Sm 1048576 ((p ((l + 1) % n)).1, (p ((l + 1) % n)).2) := (hs.out _ hql).mono (by omega)
                go_wp2
                by_cases hne : (l + 1) % n = i
                · have g1 : (((l : Int) + 1) % (n : Int) != (i : Int)) = false := by rw [bne_eq_false_iff_eq]; omega
                  refine wp_region_ext (by kernel_rfl) (by kernel_rfl) ?_
                  repeat (go_big_quiet_step (fail))
                  refine wpQuiet_nil ?_
                  rintro ⟨w1, hw1⟩
                  dsimp only
                  replace B0 := nextB B0 hw1
                  replace K5 := K5.next hw1
                  replace K6 := K6.next hw1
                  clear x0 x1 y0 y1 x50 x51 x60 x61
                  go_wp2
                  go_roundw
                  case rel => exact ⟨l + 1, by omega, by omega, by go_num, fun j h1 h2 h4 => (by
                    by_cases hjl : j = l
                    · subst hjl; intro hx; exact absurd hne hx
                    · exact hok4.out j h1 h2 (by omega)), K5, K6, B0⟩
                  case measure => simp [intOf]; omega
                · have g1 : (((l : Int) + 1) % (n : Int) != (i : Int)) = true := by rw [bne_iff_ne]; omega
                  refine wp_region_ext (by kernel_rfl) (by kernel_rfl) ?_
                  repeat (go_big_quiet_step ((go_at_call 70; exact callE (pmeet_any _ _ _ _ _ _ _ _ _ (by assumption) (by assumption) (by assumption) (by assumption)))))
                  refine wpQuiet_nil ?_
                  rintro ⟨w1, hw1⟩
                  dsimp only
                  replace B0 := nextB B0 hw1
                  replace K5 := K5.next hw1
                  replace K6 := K6.next hw1
                  clear x0 x1 y0 y1 x50 x51 x60 x61
                  cases g2 : decide (MeetP ((p i).1, (p i).2) ((p ((i + 1) % n)).1, (p ((i + 1) % n)).2) ((p l).1, (p l).2) ((p ((l + 1) % n)).1, (p ((l + 1) % n)).2))
                  · go_wp2
                    go_roundw
                    case rel => exact ⟨l + 1, by omega, by omega, by go_num, fun j h1 h2 h4 => (by
                      by_cases hjl : j = l
                      · subst hjl; intro _; exact of_decide_eq_false g2
                      · exact hok4.out j h1 h2 (by omega)), K5, K6, B0⟩
                    case measure => simp [intOf]; omega
                  · go_wp2
                    go_ret
                    exact Ret.mk (ret_dec (by simp only [Bool.false_eq_true, false_iff]; intro hp; exact (hp i hlt).2 l hlk hil hne (of_decide_eq_true g2))) B0
              · go_wp2
                go_roundw
                case rel => exact ⟨i + 1, by omega, by go_num, fun j hj => (by
                  by_cases hji : j = i
                  · subst hji; exact ⟨hO4, fun q h1 h2 => hok4.out q h1 h2 (by omega)⟩
                  · exact hok2.out j (by omega)), B0⟩
                case measure => simp [intOf]; omega
          · go_wp2
            go_ret
            exact Ret.mk (ret_dec (by simp only [Bool.false_eq_true, false_iff]; intro hp; exact (hp i hlt).1.2 (of_decide_eq_true g2))) B0
        · have C0 := b3d wr (.cells #[.int .i64 (p i).1, .int .i64 (p i).2] 65) (.cells #[.int .i64 (p ((i + 1) % n)).1, .int .i64 (p ((i + 1) % n)).2] 65) (.cells #[.int .i64 (p ((i + 2) % n)).1, .int .i64 (p ((i + 2) % n)).2] 65)
          have C1 := b3d wr (.cells #[.int .i64 (p i).1, .int .i64 (p i).2] 65) (.cells #[.int .i64 (p ((i + 2) % n)).1, .int .i64 (p ((i + 2) % n)).2] 65) (.cells #[.int .i64 (p ((i + 1) % n)).1, .int .i64 (p ((i + 1) % n)).2] 65)
          go_wp2
          go_ret
          exact Ret.mk (ret_dec (by simp only [Bool.false_eq_true, false_iff]; intro hp; exact (hp i hlt).1.1 (eqP_iff.1 g1))) (nextB B0 (by first | exact C0 | exact C1))
      · cases g1 : eqP ((p i).1, (p i).2) ((p ((i + 1) % n)).1, (p ((i + 1) % n)).2)
        · go_wp2_with fail
          refine calls_at (F := fun W => Box2 W (wr.heap.size) (p i).1 (p i).2 ∧ Box2 W (wr.heap.size + 1 + 1) (p ((i + 1) % n)).1 (p ((i + 1) % n)).2 ∧ Box2 W (wr.heap.size + 1) (p ((i + 2) % n)).1 (p ((i + 2) % n)).2 ∧ Below wr.heap.size wr W)
            ⟨⟨by go_simp, by go_simp⟩, ⟨by go_simp, by go_simp⟩, ⟨by go_simp, by go_simp⟩, b3d _ _ _ _⟩ ?_
          rintro W ⟨K5, K6, K7, C0⟩
          refine (turnsBack_any _ _ _ _ _ _ W (by assumption) (by assumption) (by assumption)).mono ?_
          rintro e w1 ⟨rfl, hb1⟩
          dsimp only
          replace B0 := nextB B0 (nextB C0 hb1)
          replace K5 := K5.next hb1
          replace K6 := K6.next hb1
          clear K7 C0 hb1 e0 e1 f0 f1 S3 hq2 m3 m4 m5
          cases g2 : decide (BackP ((p i).1, (p i).2) ((p ((i + 1) % n)).1, (p ((i + 1) % n)).2) ((p ((i + 2) % n)).1, (p ((i + 2) % n)).2))
          · have hO4 : Hid (Ok4 n p i) := ⟨eqP_not.1 g1, of_decide_eq_false g2⟩
            go_wp2
            go_loopw [8, 9] (fun l q wi => ∃ l' : Nat, l' ≤ n + 2 ∧ i + 2 ≤ l' ∧ l = .int .i64 l' ∧ (∀ j, j < n → i + 2 ≤ j → j < l' → Ok2 n p i j) ∧ Box2 wi (wr.heap.size) (p i).1 (p i).2 ∧ Box2 wi (wr.heap.size + 1 + 1) (p ((i + 1) % n)).1 (p ((i + 1) % n)).2 ∧ Below w.heap.size w wi) (fun l _ _ => n + 2 - (intOf l).toNat)
            case atStart => exact ⟨i + 2, by omega, by omega, by go_num, fun j _ _ _ => absurd ‹j < i + 2› (by omega), K5, K6, B0⟩
            case round =>
              clear B0 K5 K6
              obtain ⟨l, hl, hil, rfl, hok4, K5, K6, B0⟩ := hrel
              have hok4 := Lib.hid hok4
              by_cases hlk : l < n
              · have hl0 : (0 : Int) ≤ (l : Int) := by omega
                have hl1 : (l : Int) < (n : Int) := by omega
                have hql : (l + 1) % n < n := Nat.mod_lt _ (by omega)
                obtain ⟨e0, e1⟩ := hc.out l hlk
                obtain ⟨f0, f1⟩ := hc.out _ hql
                have x0 := cellX (cellB B0 e0)
                have x1 := cellX (cellB B0 e1)
                have y0 := cellX (cellB B0 f0)
                have y1 := cellX (cellB B0 f1)
                have x50 := cellX K5.1
                have x51 := cellX K5.2
                have x60 := cellX K6.1
                have x61 := cellX K6.2
                clear e0 e1 f0 f1
                obtain ⟨m0, m1, m2⟩ := mod_at1 l n (by omega)
                have T1 : Sm 1048576 ((p l).1, (p l).2) := (hs.out l hlk).mono (by omega)
                have T2 : Sm 1048576 ((p ((l + 1) % n)).1, (p ((l + 1) % n)).2) := (hs.out _ hql).mono (by omega)
                go_wp2
                by_cases hne : (l + 1) % n = i
                · have g1 : (((l : Int) + 1) % (n : Int) != (i : Int)) = false := by rw [bne_eq_false_iff_eq]; omega
                  refine wp_region_ext (by kernel_rfl) (by kernel_rfl) ?_
                  repeat (go_big_quiet_step (fail))
                  refine wpQuiet_nil ?_
                  rintro ⟨w1, hw1⟩
                  dsimp only
                  replace B0 := nextB B0 hw1
                  replace K5 := K5.next hw1
                  replace K6 := K6.next hw1
                  clear x0 x1 y0 y1 x50 x51 x60 x61
                  go_wp2
                  go_roundw
                  case rel => exact ⟨l + 1, by omega, by omega, by go_num, fun j h1 h2 h4 => (by
                    by_cases hjl : j = l
                    · subst hjl; intro hx; exact absurd hne hx
                    · exact hok4.out j h1 h2 (by omega)), K5, K6, B0⟩
                  case measure => simp [intOf]; omega
                · have g1 : (((l : Int) + 1) % (n : Int) != (i : Int)) = true := by rw [bne_iff_ne]; omega
                  refine wp_region_ext (by kernel_rfl) (by kernel_rfl) ?_
                  repeat (go_big_quiet_step ((go_at_call 70; exact callE (pmeet_any _ _ _ _ _ _ _ _ _ (by assumption) (by assumption) (by assumption) (by assumption)))))
                  refine wpQuiet_nil ?_
                  rintro ⟨w1, hw1⟩
                  dsimp only
                  replace B0 := nextB B0 hw1
                  replace K5 := K5.next hw1
                  replace K6 := K6.next hw1
                  clear x0 x1 y0 y1 x50 x51 x60 x61
                  cases g2 : decide (MeetP ((p i).1, (p i).2) ((p ((i + 1) % n)).1, (p ((i + 1) % n)).2) ((p l).1, (p l).2) ((p ((l + 1) % n)).1, (p ((l + 1) % n)).2))
                  · go_wp2
                    go_roundw
                    case rel => exact ⟨l + 1, by omega, by omega, by go_num, fun j h1 h2 h4 => (by
                      by_cases hjl : j = l
                      · subst hjl; intro _; exact of_decide_eq_false g2
                      · exact hok4.out j h1 h2 (by omega)), K5, K6, B0⟩
                    case measure => simp [intOf]; omega
                  · go_wp2
                    go_ret
                    exact Ret.mk (ret_dec (by simp only [Bool.false_eq_true, false_iff]; intro hp; exact (hp i hlt).2 l hlk hil hne (of_decide_eq_true g2))) B0
              · go_wp2
                go_roundw
                case rel => exact ⟨i + 1, by omega, by go_num, fun j hj => (by
                  by_cases hji : j = i
                  · subst hji; exact ⟨hO4, fun q h1 h2 => hok4.out q h1 h2 (by omega)⟩
                  · exact hok2.out j (by omega)), B0⟩
                case measure => simp [intOf]; omega
          · go_wp2
            go_ret
            exact Ret.mk (ret_dec (by simp only [Bool.false_eq_true, false_iff]; intro hp; exact (hp i hlt).1.2 (of_decide_eq_true g2))) B0
        · have C0 := b3d wr (.cells #[.int .i64 (p i).1, .int .i64 (p i).2] 65) (.cells #[.int .i64 (p ((i + 1) % n)).1, .int .i64 (p ((i + 1) % n)).2] 65) (.cells #[.int .i64 (p ((i + 2) % n)).1, .int .i64 (p ((i + 2) % n)).2] 65)
          have C1 := b3d wr (.cells #[.int .i64 (p i).1, .int .i64 (p i).2] 65) (.cells #[.int .i64 (p ((i + 2) % n)).1, .int .i64 (p ((i + 2) % n)).2] 65) (.cells #[.int .i64 (p ((i + 1) % n)).1, .int .i64 (p ((i + 1) % n)).2] 65)
          go_wp2
          go_ret
          exact Ret.mk (ret_dec (by simp only [Bool.false_eq_true, false_iff]; intro hp; exact (hp i hlt).1.1 (eqP_iff.1 g1))) (nextB B0 (by first | exact C0 | exact C1))
    · go_wp2
      go_ret
      exact Ret.mk (ret_dec (by simp only [true_iff]; exact fun j hj => hok2 j (by omega))) B0
end Go.Proofs.Ytnjegnlfdbbleaa
