/- Layer 2: which lists are brands: the specification's test; both tests are one. -/
import Derived.Test.YtflbaadfbjpakaaBf
namespace Go.Proofs.Ytflbaadfbjpakaa
open Go Go.RowKit

theorem brandOf_any (n : Int) (a : Option Addr) (m c : Nat) (L : List (Int × Int)) (w : World) (h : Prs w a L) (hl : L.length = m) (hcap : m ≤ c) (hm : m ≤ 4611686018427387904) :
    Calls Try.prog 48 #[.int .i64 n, .slice a m c] w (Ret (brandV n a m c (decide (BrandP n L))) w) := by
  by_cases hh : 3 ≤ n ∧ n ≤ 12 ∧ (m : Int) = n - 3
  · by_cases h0 : m = 0
    · subst h0
      obtain rfl : n = 3 := by omega
      rw [brandV_yes ⟨by omega, by omega, by omega, fun i hi => absurd hi (by omega)⟩]
      exact brandOf_three a c w
    · obtain ⟨b, off, rfl, hc⟩ := prs_at h (by omega)
      rw [hl] at hc
      exact brandOf_in n b off m c L w hl hh.1 hh.2.1 hh.2.2 hcap hc
  · exact brandOf_out n a m c L w hl hm hh

/-- As the specification looks at line i. -/
def OkR (n : Int) (L : List (Int × Int)) (i : Nat) : Prop := LineP n (pth L i) ∧ (0 < i → LexP (pth L (i - 1)) (pth L i)) ∧ ∀ k, k < i → ¬ CrossP (pth L k) (pth L i)
theorem okR_all {n : Int} {L : List (Int × Int)} {m : Nat} (h : ∀ i, i < m → OkR n L i) : ∀ i, i < m → OkL n L i := by
  have lex : ∀ i, i < m → ∀ k, k < i → LexP (pth L k) (pth L i) := by
    intro i
    induction i with
    | zero => intro _ k hk; omega
    | succ i ih =>
      intro hi k hk
      have h1 := (h (i + 1) hi).2.1 (by omega)
      rw [Nat.add_sub_cancel] at h1
      by_cases hki : k = i
      · subst hki; exact h1
      · have h2 := ih (by omega) k (by omega)
        unfold LexP at *
        omega
  exact fun i hi => ⟨(h i hi).1, fun k hk => ⟨lex i hi k hk, fun hc => (h i hi).2.2 k hk (.inl hc)⟩⟩
theorem okL_all {n : Int} {L : List (Int × Int)} {i : Nat} (h : OkL n L i) : OkR n L i := by
  refine ⟨h.1, fun h0 => (h.2 _ (by omega)).1, fun k hk hc => ?_⟩
  obtain ⟨h1, h2⟩ := h.2 k hk
  rcases hc with hc | hc
  · exact h2 hc
  · unfold LexP at h1
    unfold CutP at hc
    omega

theorem refIsBrand_out (n : Int) (a : Option Addr) (m c : Nat) (L : List (Int × Int)) (w : World) (hl : L.length = m) (_hm : m ≤ 4611686018427387904) (hh : ¬ (3 ≤ n ∧ n ≤ 12 ∧ (m : Int) = n - 3)) :
    Calls Try.prog 19 #[.int .i64 n, .slice a m c] w (Ret (.bool (decide (BrandP n L))) w) := by
  rw [decide_eq_false (show ¬ BrandP n L from fun h => hh ⟨h.1, h.2.1, by have := h.2.2.1; omega⟩)]
  clear hl
  by_cases h1 : n < 3
  · clear hh
    go_enter Try.func19, Try.ntmps19
    go_wp2
    go_ret
    exact Ret.mk rfl (Below.refl _ _)
  · by_cases h2 : 12 < n
    · clear hh
      go_enter Try.func19, Try.ntmps19
      go_wp2
      go_ret
      exact Ret.mk rfl (Below.refl _ _)
    · have g : ((m : Int) != n - 3) = true := by rw [bne_iff_ne]; omega
      clear hh
      go_enter Try.func19, Try.ntmps19
      go_wp2
      go_ret
      exact Ret.mk rfl (Below.refl _ _)

set_option maxRecDepth 100000 in
set_option maxHeartbeats 4000000 in
theorem refIsBrand_in (n : Int) (b off m c : Nat) (L : List (Int × Int)) (w : World) (hl : L.length = m) (h3 : 3 ≤ n) (h12 : n ≤ 12) (hmn : (m : Int) = n - 3)
    (hc : ∀ i, i < m → w.cell? ⟨b, off + i * 2, none⟩ = some (.int .i64 (pth L i).1) ∧ w.cell? ⟨b, off + i * 2 + 1, none⟩ = some (.int .i64 (pth L i).2)) :
    Calls Try.prog 19 #[.int .i64 n, .slice (some ⟨b, off, none⟩) m c] w (Ret (.bool (decide (BrandP n L))) w) := by
  replace hc := Lib.hid hc
  have hB : Hid (BrandP n L ↔ ∀ i, i < m → OkR n L i) := ⟨fun h i hi => okL_all (h.2.2.2 i (by omega)), fun h => ⟨h3, h12, by omega, fun i hi => okR_all h i (by omega)⟩⟩
  have g0 : ((m : Int) != n - 3) = false := by rw [bne_eq_false_iff_eq]; omega
  have hm9 : m ≤ 9 := by omega
  clear hl
  replace hmn := Lib.hid hmn
  go_enter Try.func19, Try.ntmps19
  go_wp2
  clear g0
  go_loopw [5] (fun i wr => ∃ k : Nat, k ≤ m ∧ i = .int .i64 k ∧ (∀ j, j < k → OkR n L j) ∧ Below w.heap.size w wr) (fun i _ => m - (intOf i).toNat)
  case atStart => exact ⟨0, by omega, rfl, fun j hj => absurd hj (by omega), Below.refl _ _⟩
  case round =>
    obtain ⟨k, hk, rfl, hok, B0⟩ := hrel
    replace hok := Lib.hid hok
    by_cases hlt : k < m
    · obtain ⟨e0, e1⟩ := hc.out k hlt
      have x0 := cellX (cellB B0 e0)
      have x1 := cellX (cellB B0 e1)
      have hi0 : (0 : Int) ≤ (k : Int) := by omega
      have hi1 : (k : Int) < (m : Int) := by omega
      have D := fun W => refIsLine_any n (pth L k).1 (pth L k).2 W (by omega) (by omega)
      cases g : decide (LineP n ((pth L k).1, (pth L k).2))
      all_goals rw [g] at D
      · clear e0 e1
        go_wp2
        refine wp_region_ext (by kernel_rfl) (by kernel_rfl) ?_
        repeat (go_big_quiet_step ((go_at_call 49; exact callE (D _))))
        refine wpQuiet_nil ?_
        rintro ⟨w1, hw1⟩
        dsimp only
        replace B0 := nextB B0 hw1
        clear x0 x1 D
        go_wp2
        go_ret
        exact Ret.mk (ret_dec (by simp only [Bool.false_eq_true, false_iff, hB.out]; intro h; exact absurd (h k hlt).1 (of_decide_eq_false g))) B0
      · have hg := Lib.hid (show LineP n (pth L k) from of_decide_eq_true g)
        clear g
        by_cases hk0 : 0 < k
        · obtain ⟨d0, d1⟩ := hc.out (k - 1) (by omega)
          have y0 := cellX (cellB B0 d0)
          have y1 := cellX (cellB B0 d1)
          have i1 : (0 : Int) ≤ (k : Int) - 1 := by omega
          have i2 : ((k : Int) - 1).toNat = k - 1 := by omega
          have i3 : (0 : Int) < (k : Int) := by omega
          have i4 : (k : Int) - 1 < (m : Int) := by omega
          have i5 : (1 : Int) ≤ (k : Int) := by omega
          have E := fun W => refBefore_any (pth L (k - 1)).1 (pth L (k - 1)).2 (pth L k).1 (pth L k).2 W
          clear d0 d1 e0 e1
          cases g : decide (LexP ((pth L (k - 1)).1, (pth L (k - 1)).2) ((pth L k).1, (pth L k).2))
          all_goals rw [g] at E
          · go_wp2
            refine wp_region_ext (by kernel_rfl) (by kernel_rfl) ?_
            repeat (go_big_quiet_step ((first | (go_at_call 49; exact callE (D _)) | (go_at_call 50; exact callE (E _)))))
            refine wpQuiet_nil ?_
            rintro ⟨w1, hw1⟩
            dsimp only
            replace B0 := nextB B0 hw1
            clear x0 x1 y0 y1 D E i2
            go_wp2
            go_ret
            exact Ret.mk (ret_dec (by simp only [Bool.false_eq_true, false_iff, hB.out]; intro h; exact absurd ((h k hlt).2.1 hk0) (of_decide_eq_false g))) B0
          · have hx := Lib.hid (show 0 < k → LexP (pth L (k - 1)) (pth L k) from fun _ => of_decide_eq_true g)
            clear g
            go_wp2
            refine wp_region_ext (by kernel_rfl) (by kernel_rfl) ?_
            repeat (go_big_quiet_step ((first | (go_at_call 49; exact callE (D _)) | (go_at_call 50; exact callE (E _)))))
            refine wpQuiet_nil ?_
            rintro ⟨w1, hw1⟩
            dsimp only
            replace B0 := nextB B0 hw1
            clear x0 x1 y0 y1 D E i1 i2 i3 i4 i5 hw1
            go_wp2
            go_loopw [6] (fun i wi => ∃ j : Nat, j ≤ k ∧ i = .int .i64 j ∧ (∀ q, q < j → ¬ CrossP (pth L q) (pth L k)) ∧ Below w.heap.size w wi) (fun i _ => k - (intOf i).toNat)
            case atStart => exact ⟨0, by omega, rfl, fun j hj => absurd hj (by omega), B0⟩
            case round =>
              clear B0
              obtain ⟨j, hj, rfl, hoj, B0⟩ := hrel
              replace hoj := Lib.hid hoj
              by_cases hjk : j < k
              · obtain ⟨e0, e1⟩ := hc.out j (by omega)
                obtain ⟨f0, f1⟩ := hc.out k hlt
                have x0 := cellX (cellB B0 e0)
                have x1 := cellX (cellB B0 e1)
                have y0 := cellX (cellB B0 f0)
                have y1 := cellX (cellB B0 f1)
                have hj0 : (0 : Int) ≤ (j : Int) := by omega
                have hj1 : (j : Int) < (k : Int) := by omega
                have hj2 : (j : Int) < (m : Int) := by omega
                have E := fun W => refCrosses_any (pth L j).1 (pth L j).2 (pth L k).1 (pth L k).2 W
                clear e0 e1 f0 f1
                cases g : decide (CrossP ((pth L j).1, (pth L j).2) ((pth L k).1, (pth L k).2))
                all_goals rw [g] at E
                · have g' := Lib.hid (of_decide_eq_false g)
                  clear g
                  go_wp2
                  refine wp_region_ext (by kernel_rfl) (by kernel_rfl) ?_
                  repeat (go_big_quiet_step ((go_at_call 51; exact callE (E _))))
                  refine wpQuiet_nil ?_
                  rintro ⟨w1, hw1⟩
                  dsimp only
                  replace B0 := nextB B0 hw1
                  clear x0 x1 y0 y1 hw1
                  go_wp2
                  go_roundw
                  case rel => exact ⟨j + 1, by omega, by go_num, fun q hq => (by
                    by_cases hqj : q = j
                    · subst hqj; exact g'.out
                    · exact hoj.out q (by omega)), B0⟩
                  case measure => simp [intOf]; omega
                · have g' := Lib.hid (of_decide_eq_true g)
                  clear g
                  go_wp2
                  refine wp_region_ext (by kernel_rfl) (by kernel_rfl) ?_
                  repeat (go_big_quiet_step ((go_at_call 51; exact callE (E _))))
                  refine wpQuiet_nil ?_
                  rintro ⟨w1, hw1⟩
                  dsimp only
                  replace B0 := nextB B0 hw1
                  clear x0 x1 y0 y1 hw1
                  go_wp2
                  go_ret
                  exact Ret.mk (ret_dec (by simp only [Bool.false_eq_true, false_iff, hB.out]; intro h; exact (h k hlt).2.2 j hjk g'.out)) B0
              · go_wp2
                go_roundw
                case rel => exact ⟨k + 1, by omega, by go_num, fun q hq => (by
                  by_cases hqk : q = k
                  · subst hqk; exact ⟨hg.out, hx.out, fun i hi => hoj.out i (by omega)⟩
                  · exact hok.out q (by omega)), B0⟩
                case measure => simp [intOf]; omega
        · have hx := Lib.hid (show 0 < k → LexP (pth L (k - 1)) (pth L k) from fun h => absurd h hk0)
          have i3 : (k : Int) ≤ 0 := by omega
          clear e0 e1
          go_wp2
          refine wp_region_ext (by kernel_rfl) (by kernel_rfl) ?_
          repeat (go_big_quiet_step ((go_at_call 49; exact callE (D _))))
          refine wpQuiet_nil ?_
          rintro ⟨w1, hw1⟩
          dsimp only
          replace B0 := nextB B0 hw1
          clear x0 x1 D hw1
          go_wp2
          go_loopw [6] (fun i wi => ∃ j : Nat, j ≤ k ∧ i = .int .i64 j ∧ (∀ q, q < j → ¬ CrossP (pth L q) (pth L k)) ∧ Below w.heap.size w wi) (fun i _ => k - (intOf i).toNat)
          case atStart => exact ⟨0, by omega, rfl, fun j hj => absurd hj (by omega), B0⟩
          case round =>
            clear B0
            obtain ⟨j, hj, rfl, hoj, B0⟩ := hrel
            replace hoj := Lib.hid hoj
            by_cases hjk : j < k
            · obtain ⟨e0, e1⟩ := hc.out j (by omega)
              obtain ⟨f0, f1⟩ := hc.out k hlt
              have x0 := cellX (cellB B0 e0)
              have x1 := cellX (cellB B0 e1)
              have y0 := cellX (cellB B0 f0)
              have y1 := cellX (cellB B0 f1)
              have hj0 : (0 : Int) ≤ (j : Int) := by omega
              have hj1 : (j : Int) < (k : Int) := by omega
              have hj2 : (j : Int) < (m : Int) := by omega
              have E := fun W => refCrosses_any (pth L j).1 (pth L j).2 (pth L k).1 (pth L k).2 W
              clear e0 e1 f0 f1
              cases g : decide (CrossP ((pth L j).1, (pth L j).2) ((pth L k).1, (pth L k).2))
              all_goals rw [g] at E
              · have g' := Lib.hid (of_decide_eq_false g)
                clear g
                go_wp2
                refine wp_region_ext (by kernel_rfl) (by kernel_rfl) ?_
                repeat (go_big_quiet_step ((go_at_call 51; exact callE (E _))))
                refine wpQuiet_nil ?_
                rintro ⟨w1, hw1⟩
                dsimp only
                replace B0 := nextB B0 hw1
                clear x0 x1 y0 y1 hw1
                go_wp2
                go_roundw
                case rel => exact ⟨j + 1, by omega, by go_num, fun q hq => (by
                  by_cases hqj : q = j
                  · subst hqj; exact g'.out
                  · exact hoj.out q (by omega)), B0⟩
                case measure => simp [intOf]; omega
              · have g' := Lib.hid (of_decide_eq_true g)
                clear g
                go_wp2
                refine wp_region_ext (by kernel_rfl) (by kernel_rfl) ?_
                repeat (go_big_quiet_step ((go_at_call 51; exact callE (E _))))
                refine wpQuiet_nil ?_
                rintro ⟨w1, hw1⟩
                dsimp only
                replace B0 := nextB B0 hw1
                clear x0 x1 y0 y1 hw1
                go_wp2
                go_ret
                exact Ret.mk (ret_dec (by simp only [Bool.false_eq_true, false_iff, hB.out]; intro h; exact (h k hlt).2.2 j hjk g'.out)) B0
            · go_wp2
              go_roundw
              case rel => exact ⟨k + 1, by omega, by go_num, fun q hq => (by
                by_cases hqk : q = k
                · subst hqk; exact ⟨hg.out, hx.out, fun i hi => hoj.out i (by omega)⟩
                · exact hok.out q (by omega)), B0⟩
              case measure => simp [intOf]; omega
    · go_wp2
      go_ret
      exact Ret.mk (ret_dec (by simp only [true_iff, hB.out]; exact fun i hi => hok.out i (by omega))) B0

theorem refIsBrand_any (n : Int) (a : Option Addr) (m c : Nat) (L : List (Int × Int)) (w : World) (h : Prs w a L) (hl : L.length = m) (hm : m ≤ 4611686018427387904) :
    Calls Try.prog 19 #[.int .i64 n, .slice a m c] w (Ret (.bool (decide (BrandP n L))) w) := by
  by_cases hh : 3 ≤ n ∧ n ≤ 12 ∧ (m : Int) = n - 3
  · by_cases h0 : m = 0
    · subst h0
      obtain rfl : n = 3 := by omega
      rw [decide_eq_true (show BrandP 3 L from ⟨by omega, by omega, by omega, fun i hi => absurd hi (by omega)⟩)]
      clear hl h hh
      go_enter Try.func19, Try.ntmps19
      go_wp2
      go_loop [5] (fun i => i = .int .i64 0) (fun i => 0)
      case atStart => rfl
      case round =>
        subst hrel
        go_wp2
        go_ret
        exact Ret.mk rfl (Below.refl _ _)
    · obtain ⟨b, off, rfl, hc⟩ := prs_at h (by omega)
      rw [hl] at hc
      exact refIsBrand_in n b off m c L w hl hh.1 hh.2.1 hh.2.2 hc
  · exact refIsBrand_out n a m c L w hl hm hh
end Go.Proofs.Ytflbaadfbjpakaa
