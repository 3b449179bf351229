/- Layer 2: the library's insertion sort, handed the order of lines. -/
import Derived.Test.YtflbaadfbjpakaaBr
namespace Go.Proofs.Ytflbaadfbjpakaa
open Go Go.RowKit

/-- The order of lines, as a value. -/
abbrev cmpV : Value := .func (.func 70) #[] #[]
theorem swap_world {w : World} {base g n cap j : Nat} {M : List (Int × Int)} (hown : w.ownsRow base 60 2 (.slice (some ⟨g, 0, none⟩) n cap) n (cP M)) (hl : M.length = n) (hj : j < n) (h0 : 0 < j) (hb : base ≤ g) {w0 : World} (hB : Below base w0 w) :
    (((((w.setCell ⟨g, j * 2, none⟩ (.int .i64 (pth M (j - 1)).1)).setCell ⟨g, j * 2 + 1, none⟩ (.int .i64 (pth M (j - 1)).2)).setCell ⟨g, (j - 1) * 2, none⟩ (.int .i64 (pth M j).1)).setCell ⟨g, (j - 1) * 2 + 1, none⟩ (.int .i64 (pth M j).2)).drew).ownsRow base 60 2 (.slice (some ⟨g, 0, none⟩) n cap) n (cP (swapL M j)) ∧
    Below base w0 (((((w.setCell ⟨g, j * 2, none⟩ (.int .i64 (pth M (j - 1)).1)).setCell ⟨g, j * 2 + 1, none⟩ (.int .i64 (pth M (j - 1)).2)).setCell ⟨g, (j - 1) * 2, none⟩ (.int .i64 (pth M j).1)).setCell ⟨g, (j - 1) * 2 + 1, none⟩ (.int .i64 (pth M j).2)).drew) := by
  have s1 := (hown.stored (j * 2) (.int .i64 (pth M (j - 1)).1)).1
  have s2 := (s1.stored (j * 2 + 1) (.int .i64 (pth M (j - 1)).2)).1
  have s3 := (s2.stored ((j - 1) * 2) (.int .i64 (pth M j).1)).1
  have s4 := (s3.stored ((j - 1) * 2 + 1) (.int .i64 (pth M j).2)).1
  rw [cP_set M j _ (by omega), cP_set _ (j - 1) _ (by simp; omega)] at s4
  exact ⟨own_drew s4, ((((hB.setCell (p := ⟨g, _, none⟩) hb _).setCell (p := ⟨g, _, none⟩) hb _).setCell (p := ⟨g, _, none⟩) hb _).setCell (p := ⟨g, _, none⟩) hb _).drew⟩
set_option maxRecDepth 100000 in
set_option maxHeartbeats 4000000 in
theorem insertion_any (base g n cap : Nat) (L : List (Int × Int)) (w : World) (hl : L.length = n) (h60 : n ≤ 1000) (hb : base ≤ g)
    (hown : w.ownsRow base 60 2 (.slice (some ⟨g, 0, none⟩) n cap) n (cP L)) :
    Calls Try.prog 97 #[.slice (some ⟨g, 0, none⟩) n cap, .int .i64 0, .int .i64 n, cmpV] w fun e w' => e = .returned (.tuple #[]) ∧
      ∃ M, M.Perm L ∧ SortedP M ∧ w'.ownsRow base 60 2 (.slice (some ⟨g, 0, none⟩) n cap) n (cP M) ∧ Below base w w' := by
  have hl' := Lib.hid hl
  clear hl
  go_enter Try.func97, Try.ntmps97
  go_wp2
  go_loopw [8] (fun i wr => ∃ k : Nat, ∃ M : List (Int × Int), 1 ≤ k ∧ k ≤ n + 1 ∧ i = .int .i64 k ∧ M.Perm L ∧ (∀ x y, x < y → y < k → y < n → LeP (pth M x) (pth M y)) ∧ wr.ownsRow base 60 2 (.slice (some ⟨g, 0, none⟩) n cap) n (cP M) ∧ Below base w wr) (fun i _ => n + 1 - (intOf i).toNat)
  case atStart => exact ⟨1, L, by omega, by omega, rfl, List.Perm.refl _, fun x y h1 h2 => by omega, hown, Below.refl _ _⟩
  case round =>
    clear hown
    obtain ⟨k, M, hk1, hk, rfl, hp, hso, hown, B0⟩ := hrel
    replace hp := Lib.hid hp
    replace hso := Lib.hid hso
    by_cases hlt : k < n
    · go_wp2
      go_loopw [9] (fun i wr => ∃ j : Nat, ∃ M : List (Int × Int), j ≤ k ∧ i = .int .i64 j ∧ M.Perm L ∧ Almost M k j ∧ wr.ownsRow base 60 2 (.slice (some ⟨g, 0, none⟩) n cap) n (cP M) ∧ Below base w wr) (fun i _ => (intOf i).toNat)
      case atStart => exact ⟨k, M, by omega, rfl, hp.out, almost_start (fun x y h1 h2 => hso.out x y h1 h2 (by omega)), hown, B0⟩
      case round =>
        clear hown B0 hp hso
        obtain ⟨j, M, hj, rfl, hp, hal, hown, B0⟩ := hrel
        have hMl := Lib.hid (show M.length = n from by rw [hp.length_eq]; exact hl'.out)
        replace hp := Lib.hid hp
        replace hal := Lib.hid hal
        by_cases h0 : 0 < j
        · have q0 := hown.cellAt (j * 2) (by omega)
          have q1 := hown.cellAt (j * 2 + 1) (by omega)
          have q2 := hown.cellAt ((j - 1) * 2) (by omega)
          have q3 := hown.cellAt ((j - 1) * 2 + 1) (by omega)
          rw [(cP_at M j (by rw [hMl.out]; omega)).1] at q0
          rw [(cP_at M j (by rw [hMl.out]; omega)).2] at q1
          rw [(cP_at M (j - 1) (by rw [hMl.out]; omega)).1] at q2
          rw [(cP_at M (j - 1) (by rw [hMl.out]; omega)).2] at q3
          have x0 := cellX q0
          have x1 := cellX q1
          have x2 := cellX q2
          have x3 := cellX q3
          clear q0 q1 q2 q3
          have i1 : (0 : Int) ≤ (j : Int) - 1 := by omega
          have i2 : ((j : Int) - 1).toNat = j - 1 := by omega
          have i3 : (0 : Int) < (j : Int) := by omega
          have i4 : (j : Int) < (n : Int) := by omega
          have i5 : (1 : Int) ≤ (j : Int) := by omega
          have i6 : (j : Int) - 1 < (n : Int) := by omega
          have hneg := Lib.hid (cmpL_neg (p := pth M j) (q := pth M (j - 1)))
          change Hid (cmpL ((pth M j).1, (pth M j).2) ((pth M (j - 1)).1, (pth M (j - 1)).2) < 0 ↔ _) at hneg
          have D := fun W => compare_any (pth M j).1 (pth M j).2 (pth M (j - 1)).1 (pth M (j - 1)).2 W
          generalize cmpL ((pth M j).1, (pth M j).2) ((pth M (j - 1)).1, (pth M (j - 1)).2) = cv at *
          go_wp2
          refine wp_region_ext (by kernel_rfl) (by kernel_rfl) ?_
          repeat (go_big_quiet_step ((exact callE (D _))))
          refine wpQuiet_nil ?_
          rintro ⟨w1, hw1⟩
          dsimp only
          replace B0 := B0.trans (hw1.mono (by have := B0.size; have := (hown.lt g rfl).2; omega))
          replace hown := owns_next hown hw1
          clear x0 x1 x2 x3 D hw1
          by_cases hcv : cv < 0
          · have hlx := Lib.hid (hneg.out.1 hcv)
            have q0 := hown.cellAt (j * 2) (by omega)
            have q1 := hown.cellAt (j * 2 + 1) (by omega)
            have q2 := hown.cellAt ((j - 1) * 2) (by omega)
            have q3 := hown.cellAt ((j - 1) * 2 + 1) (by omega)
            rw [(cP_at M j (by rw [hMl.out]; omega)).1] at q0
            rw [(cP_at M j (by rw [hMl.out]; omega)).2] at q1
            rw [(cP_at M (j - 1) (by rw [hMl.out]; omega)).1] at q2
            rw [(cP_at M (j - 1) (by rw [hMl.out]; omega)).2] at q3
            have f0 := hown.frozenAt (j * 2)
            have f1 := hown.frozenAt (j * 2 + 1)
            have f2 := hown.frozenAt ((j - 1) * 2)
            have f3 := hown.frozenAt ((j - 1) * 2 + 1)
            have n1 : ¬ (j - 1) * 2 = j * 2 := by omega
            have n2 : ¬ (j - 1) * 2 = j * 2 + 1 := by omega
            have n3 : ¬ j * 2 = (j - 1) * 2 := by omega
            have n4 : ¬ j * 2 = (j - 1) * 2 + 1 := by omega
            have n5 : ¬ (j - 1) * 2 + 1 = j * 2 := by omega
            have n6 : ¬ j * 2 + 1 = (j - 1) * 2 := by omega
            go_wp2
            go_region
            all_goals
              obtain ⟨hown4, B4⟩ := swap_world hown hMl.out (by omega) h0 hb B0
              clear q0 q1 q2 q3 f0 f1 f2 f3 n1 n2 n3 n4 n5 n6 hown
              generalize (((((w1.setCell ⟨g, j * 2, none⟩ (.int .i64 (pth M (j - 1)).1)).setCell ⟨g, j * 2 + 1, none⟩ (.int .i64 (pth M (j - 1)).2)).setCell ⟨g, (j - 1) * 2, none⟩ (.int .i64 (pth M j).1)).setCell ⟨g, (j - 1) * 2 + 1, none⟩ (.int .i64 (pth M j).2)).drew) = w4 at *
              go_wp2
              go_roundw
              case rel => exact ⟨j - 1, swapL M j, by omega, by simp only [Value.int.injEq, true_and]; omega, (swapL_perm (by rw [hMl.out]; omega)).trans hp.out, almost_swap hal.out (by rw [hMl.out]; omega) hj h0 hlx.out, hown4, B4⟩
              case measure => simp [intOf]; omega
          · have hnl := Lib.hid (fun h => hcv (hneg.out.2 h))
            go_wp2
            go_roundw
            case rel => exact ⟨k + 1, M, by omega, by omega, by go_num, hp.out, fun x y h1 h2 _ => almost_done hal.out (.inr hnl.out) x y h1 (by omega), hown, B0⟩
            case measure => simp [intOf]; omega
        · have i3 : (j : Int) ≤ 0 := by omega
          go_wp2
          refine wp_region_ext (by kernel_rfl) (by kernel_rfl) ?_
          repeat (go_big_quiet_step (fail))
          refine wpQuiet_nil ?_
          rintro ⟨w1, hw1⟩
          dsimp only
          replace B0 := B0.trans (hw1.mono (by have := B0.size; have := (hown.lt g rfl).2; omega))
          replace hown := owns_next hown hw1
          clear hw1
          go_wp2
          go_roundw
          case rel => exact ⟨k + 1, M, by omega, by omega, by go_num, hp.out, fun x y h1 h2 _ => almost_done hal.out (.inl (by omega)) x y h1 (by omega), hown, B0⟩
          case measure => simp [intOf]; omega
    · go_wp2
      go_end0
      exact ⟨rfl, M, hp.out, fun x y h1 h2 => hso.out x y h1 (by have := hp.out.length_eq; rw [hl'.out] at this; omega) (by have := hp.out.length_eq; rw [hl'.out] at this; omega), hown, B0⟩
end Go.Proofs.Ytflbaadfbjpakaa
