/- Layer 5: slices.Sort of at most twelve sets. -/
import Derived.Test.YtfdaljekehkkaaaGreatDoorSa
import Derived.Laws.Shifts
import Derived.RegionTactic
namespace Go.Proofs.YtfdaljekehkkaaaGreatDoor
open Go Go.RowKit

theorem isNaN_any (x : Int) (w : World) : Calls Tryz.prog 91 #[.int .i64 x] w (Only (.bool false) w) := by
  have hx : (x == x) = true := by simp
  go_enter Tryz.func91, Tryz.ntmps91
  go_wp2
  go_ret
  exact Only.mk (by first | rfl | simp)
theorem less_any (x y : Nat) (w : World) : Calls Tryz.prog 72 #[.int .i64 (x : Nat), .int .i64 (y : Nat)] w (Only (.bool (decide (x < y))) w) := by
  have N := fun (z : Int) W => isNaN_any z W
  go_enter Tryz.func72, Tryz.ntmps72
  go_wp2_with (go_at_call 91; refine (N _ _).mono ?_; rintro e w1 ⟨rfl, rfl⟩)
  go_ret
  exact Only.mk rfl
/-- An element is a set, as a number. -/
def SetE (L : List El) : Prop := ∀ e ∈ L, e.2 = .int .i64 (e.1 : Int)
theorem SetE.perm {L M : List El} (h : SetE L) (hp : M.Perm L) : SetE M := fun e he => h e (hp.mem_iff.1 he)
theorem SetE.at {L : List El} (h : SetE L) {i : Nat} (hi : i < L.length) : (eth L i).2 = .int .i64 ((eth L i).1 : Int) := by rw [eth_get hi]; exact h _ (List.getElem_mem hi)
set_option maxRecDepth 100000 in
set_option maxHeartbeats 4000000 in
theorem insS_any (base g n cap : Nat) (L : List El) (w : World) (hl : L.length = n) (h60 : n ≤ 1000) (hb : base ≤ g) (hS : SetE L)
    (hown : w.ownsRow base 60 1 (.slice (some ⟨g, 0, none⟩) n cap) n (cE L)) :
    Calls Tryz.prog 66 #[.slice (some ⟨g, 0, none⟩) n cap, .int .i64 0, .int .i64 n] w (SortsE 60 base n (.slice (some ⟨g, 0, none⟩) n cap) L w) := by
  have hl' := Lib.hid hl
  replace hS := Lib.hid hS
  clear hl
  go_enter Tryz.func66, Tryz.ntmps66
  go_wp2
  go_loopw [6] (fun i wr => ∃ k : Nat, ∃ M : List El, 1 ≤ k ∧ k ≤ n + 1 ∧ i = .int .i64 k ∧ M.Perm L ∧ (∀ x y, x < y → y < k → y < n → (eth M x).1 ≤ (eth M y).1) ∧ wr.ownsRow base 60 1 (.slice (some ⟨g, 0, none⟩) n cap) n (cE M) ∧ Below base w wr) (fun i _ => n + 1 - (intOf i).toNat)
  case atStart => exact ⟨1, L, by omega, by omega, rfl, List.Perm.refl _, fun x y h1 h2 => by omega, hown, Below.refl _ _⟩
  case round =>
    clear hown
    obtain ⟨k, M, hk1, hk, rfl, hp, hso, hown, B0⟩ := hrel
    replace hp := Lib.hid hp
    replace hso := Lib.hid hso
    by_cases hlt : k < n
    · go_wp2
      go_loopw [7] (fun i wr => ∃ j : Nat, ∃ M : List El, j ≤ k ∧ i = .int .i64 j ∧ M.Perm L ∧ AlmostE M k j ∧ wr.ownsRow base 60 1 (.slice (some ⟨g, 0, none⟩) n cap) n (cE M) ∧ Below base w wr) (fun i _ => (intOf i).toNat)
      case atStart => exact ⟨k, M, by omega, rfl, hp.out, almostE_start (fun x y h1 h2 => hso.out x y h1 h2 (by omega)), hown, B0⟩
      case round =>
        clear hown B0 hp hso
        obtain ⟨j, M, hj, rfl, hp, hal, hown, B0⟩ := hrel
        have hMl := Lib.hid (show M.length = n from by rw [hp.length_eq]; exact hl'.out)
        have hSM := Lib.hid (hS.out.perm hp)
        replace hp := Lib.hid hp
        replace hal := Lib.hid hal
        by_cases h0 : 0 < j
        · have q0 := hown.cellAt j (by omega)
          have q2 := hown.cellAt (j - 1) (by omega)
          rw [cE_at (by rw [hMl.out]; omega), hSM.out.at (by rw [hMl.out]; omega)] at q0 q2
          have x0 := cellX q0
          have x2 := cellX q2
          clear q0 q2
          have i1 : (0 : Int) ≤ (j : Int) - 1 := by omega
          have i2 : ((j : Int) - 1).toNat = j - 1 := by omega
          have i3 : (0 : Int) < (j : Int) := by omega
          have i4 : (j : Int) < (n : Int) := by omega
          have i5 : (1 : Int) ≤ (j : Int) := by omega
          have i6 : (j : Int) - 1 < (n : Int) := by omega
          have D := fun W => (less_any (eth M j).1 (eth M (j - 1)).1 W).mono fun _ _ k => k.ret
          obtain ⟨cv, hcv⟩ : ∃ b, Hid (decide ((eth M j).1 < (eth M (j - 1)).1) = b) := ⟨_, Lib.hid rfl⟩
          rw [hcv.out] at D
          go_wp2
          refine wp_region_ext (by kernel_rfl) (by kernel_rfl) ?_
          repeat (go_big_quiet_step ((exact callE (D _))))
          refine wpQuiet_nil ?_
          rintro ⟨w1, hw1⟩
          dsimp only
          replace B0 := B0.trans (hw1.mono (by have := B0.size; have := (hown.lt g rfl).2; omega))
          replace hown := owns_next hown hw1
          clear x0 x2 D hw1
          cases cv
          · have hnl := Lib.hid (of_decide_eq_false hcv.out)
            go_wp2
            go_roundw
            case rel => exact ⟨k + 1, M, by omega, by omega, by go_num, hp.out, fun x y h1 h2 _ => almostE_done hal.out (.inr hnl.out) x y h1 (by omega), hown, B0⟩
            case measure => simp [intOf]; omega
          · have hlx := Lib.hid (of_decide_eq_true hcv.out)
            have q0 := hown.cellAt j (by omega)
            have q2 := hown.cellAt (j - 1) (by omega)
            rw [cE_at (by rw [hMl.out]; omega), hSM.out.at (by rw [hMl.out]; omega)] at q0 q2
            have f0 := hown.frozenAt j
            have f2 := hown.frozenAt (j - 1)
            have n1 : ¬ j - 1 = j := by omega
            have n3 : ¬ j = j - 1 := by omega
            have hv0 := Lib.hid (hSM.out.at (i := j) (by rw [hMl.out]; omega))
            have hv1 := Lib.hid (hSM.out.at (i := j - 1) (by rw [hMl.out]; omega))
            go_wp2
            go_region
            all_goals
              obtain ⟨hown4, B4⟩ := swap_worldE (j := j) hown hMl.out (by omega) hb B0
              rw [hv0.out, hv1.out] at hown4 B4
              clear q0 q2 f0 f2 n1 n3 hown
              generalize (((w1.setCell ⟨g, j, none⟩ (.int .i64 ((eth M (j - 1)).1 : Nat))).setCell ⟨g, j - 1, none⟩ (.int .i64 ((eth M j).1 : Nat))).drew) = w4 at *
              go_wp2
              go_roundw
              case rel => exact ⟨j - 1, swapE M j, by omega, by simp only [Value.int.injEq, true_and]; omega, (swapE_perm (by rw [hMl.out]; omega)).trans hp.out, almostE_swap hal.out (by rw [hMl.out]; omega) hj h0 hlx.out, hown4, B4⟩
              case measure => simp [intOf]; omega
        · have i3 : (j : Int) ≤ 0 := by omega
          go_wp2
          refine wp_region_ext (by kernel_rfl) (by kernel_rfl) ?_
          repeat (go_big_quiet_step (fail))
          refine wpQuiet_nil ?_
          rintro ⟨w1, hw1⟩
          dsimp only
          replace B0 := B0.trans (hw1.mono (by have := B0.size; have := (hown.lt g rfl).2; omega))
          replace hown := owns_next hown hw1
          clear hw1
          go_wp2
          go_roundw
          case rel => exact ⟨k + 1, M, by omega, by omega, by go_num, hp.out, fun x y h1 h2 _ => almostE_done hal.out (.inl (by omega)) x y h1 (by omega), hown, B0⟩
          case measure => simp [intOf]; omega
    · go_wp2
      go_end0
      exact ⟨rfl, M, hp.out, fun x y h1 h2 => hso.out x y h1 (by have := hp.out.length_eq; rw [hl'.out] at this; omega) (by have := hp.out.length_eq; rw [hl'.out] at this; omega), hown, B0⟩
set_option maxRecDepth 100000 in
set_option maxHeartbeats 1600000 in
theorem len64_any (n : Nat) (w : World) (h : n ≤ 12) : Calls Tryz.prog 76 #[.int .u64 n] w fun e w' => ∃ r : Int, e = .returned (.int .i64 r) ∧ w = w' := by
  have hn : n = 0 ∨ n = 1 ∨ n = 2 ∨ n = 3 ∨ n = 4 ∨ n = 5 ∨ n = 6 ∨ n = 7 ∨ n = 8 ∨ n = 9 ∨ n = 10 ∨ n = 11 ∨ n = 12 := by omega
  rcases hn with rfl | rfl | rfl | rfl | rfl | rfl | rfl | rfl | rfl | rfl | rfl | rfl | rfl
  all_goals
    go_enter Tryz.func76, Tryz.ntmps76
    go_wp2
    go_ret
    exact ⟨_, rfl, rfl⟩
set_option maxRecDepth 100000 in
theorem len_any (n : Nat) (w : World) (h : n ≤ 12) : Calls Tryz.prog 61 #[.int .u64 n] w fun e w' => ∃ r : Int, e = .returned (.int .i64 r) ∧ w = w' := by
  have K := fun W => len64_any n W h
  go_enter Tryz.func61, Tryz.ntmps61
  go_wp2_with (go_at_call 76; refine (K _).mono ?_; rintro e w1 ⟨r, rfl, rfl⟩)
  go_ret
  exact ⟨_, rfl, rfl⟩
set_option maxRecDepth 100000 in
set_option maxHeartbeats 1600000 in
theorem sortS_any (base g n cap : Nat) (L : List El) (w : World) (hl : L.length = n) (h12 : n ≤ 12) (hb : base ≤ g) (hS : SetE L)
    (hown : w.ownsRow base 60 1 (.slice (some ⟨g, 0, none⟩) n cap) n (cE L)) :
    Calls Tryz.prog 51 #[.slice (some ⟨g, 0, none⟩) n cap] w (SortsE 60 base n (.slice (some ⟨g, 0, none⟩) n cap) L w) := by
  have I := Lib.hid (insS_any base g n cap L w hl (by omega) hb hS hown)
  have P : Hid (∀ lim, Calls Tryz.prog 60 #[.slice (some ⟨g, 0, none⟩) n cap, .int .i64 0, .int .i64 n, .int .i64 lim] w (SortsE 60 base n (.slice (some ⟨g, 0, none⟩) n cap) L w)) := by
    refine Lib.hid fun lim => ?_
    clear hown hl hS
    go_enter Tryz.func60, Tryz.ntmps60
    go_wp2
    refine wp_loop_rounds 1 ?_
    rw [rounds_succ]
    go_wp2_with (go_at_call 66; refine I.out.mono ?_; rintro e w1 ⟨rfl, hs⟩; replace hs := Lib.hid hs)
    go_end0
    exact ⟨rfl, hs.out⟩
  have N := fun W => len_any n W h12
  clear hown hl hS I
  go_enter Tryz.func51, Tryz.ntmps51
  go_wp2_with (first
    | (go_at_call 61; refine (N _).mono ?_; rintro e w1 ⟨r, rfl, rfl⟩)
    | (go_at_call 60; refine (P.out _).mono ?_; rintro e w1 ⟨rfl, hs⟩; replace hs := Lib.hid hs))
  go_end0
  exact ⟨rfl, hs.out⟩
end Go.Proofs.YtfdaljekehkkaaaGreatDoor
