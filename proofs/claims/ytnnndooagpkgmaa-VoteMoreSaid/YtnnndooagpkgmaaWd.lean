/- Layer 3, by the specification: which lists are rules; does a set win by a rule. -/
import Derived.Test.YtnnndooagpkgmaaWc
namespace Go.Proofs.Ytnnndooagpkgmaa
open Go Go.RowKit

theorem RulesTo.asc {n : Nat} {R : List Int} {k : Nat} (h : RulesTo n R k) : ∀ i, i < k → ∀ j, j < i → nth R j < nth R i := by
  intro i
  induction i with
  | zero => intro _ j hj; omega
  | succ i ih =>
    intro hi j hj
    have h1 := (h (i + 1) hi).2.2.1 (by omega)
    simp only [Nat.add_sub_cancel] at h1
    by_cases e : j = i
    · subst e; exact h1
    · have := ih (by omega) j (by omega); omega
theorem hasOne_take {R : List Int} {i x : Nat} (hi : i ≤ R.length) : hasOne (R.take i) x = true ↔ ∃ j, j < i ∧ inB (nth R j).toNat x = true := by
  rw [hasOne_iff]
  have e : ∀ j, j < i → nth (R.take i) j = nth R j := fun j hj => by simp [nth, hj]
  constructor
  · rintro ⟨j, hj, h⟩
    have hj' : j < i := by simp at hj; omega
    exact ⟨j, hj', by rwa [e j hj'] at h⟩
  · rintro ⟨j, hj, h⟩
    exact ⟨j, by simp; omega, by rwa [e j hj]⟩
set_option maxRecDepth 100000 in
set_option maxHeartbeats 8000000 in
theorem refIsRule_in (b off m c n : Nat) (R : List Int) (w : World) (hc : ∀ i, i < m → w.cell? ⟨b, off + i, none⟩ = some (.int .i64 (nth R i))) (hl : R.length = m) (hm0 : 0 < m) (hm : m ≤ 1000) (h1 : 1 ≤ n) (h5 : n ≤ 5) :
    Calls Try.prog 40 #[.int .i64 (n : Nat), .slice (some ⟨b, off, none⟩) m c] w (Ret (.bool (decide (RuleP n R))) w) := by
  have sh := wrap_shl (k := n) (by omega)
  have shi : IntKind.i64.wrap (((2 : Int) ^ n)) = ((pw n : Nat) : Int) := by rw [pw_int]; exact wrap_pw (by omega)
  have hp8 : pw n ≤ 256 := by have := pw_mono (show n ≤ 8 by omega); simpa [pw] using this
  have hp1 := pw_pos n
  have hP : Hid (RuleP n R ↔ RulesTo n R m) := Lib.hid ⟨fun h => by have := h.2.2.2; rwa [hl] at this, fun h => ⟨h1, h5, by omega, by rw [hl]; exact h⟩⟩
  have hok := Lib.hid (fun k => (show RuleOk n R k ↔ 1 ≤ nth R k ∧ nth R k < ((pw n : Nat) : Int) ∧ (0 < k → nth R (k - 1) < nth R k) ∧ hasOne (R.take k) (nth R k).toNat = false from Iff.rfl))
  have htk := Lib.hid (fun k x (hk : k < m) => hasOne_take (R := R) (i := k) (x := x) (by omega))
  replace hc := Lib.hid hc
  have hb : b < w.heap.size := block_lt_of_cell (hc.out 0 (by omega))
  replace hl := Lib.hid hl
  obtain ⟨N, hN⟩ : ∃ N, Hid (pw n = N) := ⟨_, Lib.hid rfl⟩
  rw [hN.out] at hp8 hp1 sh shi hok
  have d1 : decide ((n : Int) < 1) = false := decide_eq_false (by omega)
  have d2 : decide (5 < (n : Int)) = false := decide_eq_false (by omega)
  have d3 : decide (n < 1) = false := decide_eq_false (by omega)
  have d4 : decide (5 < n) = false := decide_eq_false (by omega)
  have d5 : ((m : Int) == 0) = false := by rw [beq_eq_false_iff_ne]; omega
  go_enter Try.func40, Try.ntmps40
  go_wp2
  clear d1 d2 d3 d4 d5
  go_loopw [5, 6] (fun i _ wr => ∃ k : Nat, k ≤ m ∧ i = .int .i64 k ∧ RulesTo n R k ∧ Below w.heap.size w wr) (fun i _ _ => m - (intOf i).toNat)
  case atStart => exact ⟨0, by omega, rfl, fun i hi => absurd hi (by omega), Below.refl _ _⟩
  case round =>
    obtain ⟨k, hk, rfl, hR, B0⟩ := hrel
    have hasc := Lib.hid hR.asc
    replace hR := Lib.hid hR
    by_cases hlt : k < m
    · have hki : (k : Int) < (m : Int) := by omega
      have x0 := cellX (cellB B0 (hc.out k hlt))
      have hokk := Lib.hid (hok.out k)
      have hno := Lib.hid (fun (h : ¬ RuleOk n R k) => (show decide (RuleP n R) = false from decide_eq_false (fun h2 => h ((hP.out.1 h2) k hlt))))
      obtain ⟨p, hp, hpc⟩ : ∃ p, Hid (0 < k → nth R (k - 1) = p) ∧ (0 < k → w.cell? ⟨b, off + (k - 1), none⟩ = some (.int .i64 p)) := ⟨_, Lib.hid (fun _ => rfl), fun h0 => hc.out (k - 1) (by omega)⟩
      obtain ⟨x, hx⟩ : ∃ x, Hid (nth R k = x) := ⟨_, Lib.hid rfl⟩
      rw [hx.out] at x0 hokk
      have endF := Lib.hid (fun (h : ¬ RuleOk n R k) (W : World) (hW : Below w.heap.size w W) => (Ret.mk (show Value.bool false = Value.bool (decide (RuleP n R)) by rw [hno.out h]) hW))
      cases g1 : decide (x < 1)
      · cases g2 : decide (((N : Nat) : Int) ≤ x)
        · have hx1 : 1 ≤ x := by have := of_decide_eq_false g1; omega
          have hx2 : x < N := by have := of_decide_eq_false g2; omega
          obtain ⟨y, rfl⟩ : ∃ y : Nat, x = y := ⟨x.toNat, by omega⟩
          simp only [Int.toNat_natCast] at hokk
          have g2' : decide (N ≤ y) = false := decide_eq_false (by omega)
          by_cases hk0 : 0 < k
          · have p0 := cellX (cellB B0 (hpc hk0))
            have p1 := Lib.hid (hp.out hk0)
            have hk1 : decide (0 < (k : Int)) = true := decide_eq_true (by omega)
            have hk1' : decide (0 < k) = true := decide_eq_true hk0
            have hkm : ((k - 1 : Nat) : Int) < (m : Int) := by omega
            have wk : IntKind.i64.wrap ((k : Int) - 1) = ((k - 1 : Nat) : Int) := by rw [IntWalk.i64_in _ (by omega)]; omega
            clear hpc
            cases g3 : decide ((y : Int) ≤ p)
            · have hpy : p < (y : Int) := by have := of_decide_eq_false g3; omega
              go_wp2
              refine wp_region_ext (by kernel_rfl) (by kernel_rfl) ?_
              repeat (go_big_quiet_step (fail))
              refine wpQuiet_nil ?_
              rintro ⟨w1, hw1⟩
              dsimp only
              have hyes := Lib.hid (fun (h : hasOne (R.take k) y = false) => (show RulesTo n R (k + 1) from hR.out.succ (hokk.out.2 ⟨hx1, hx2, fun _ => by rw [p1.out]; exact hpy, h⟩)))
              replace B0 := nextB B0 hw1
              clear hw1 x0 p0
              have hbig := Lib.hid (fun j (hj : j < k) => (show 1 ≤ nth R j ∧ nth R j < (y : Int) from ⟨(hR.out j hj).1, by
                by_cases e : j = k - 1
                · subst e; rw [p1.out]; exact hpy
                · have h1 := hasc.out (k - 1) (by omega) j (by omega)
                  rw [p1.out] at h1
                  omega⟩))
              have htk2 := Lib.hid (htk.out k y hlt)
              go_wp2
              generalize w1 = wq at *
              go_loopw [6] (fun i wr => ∃ j : Nat, j ≤ k ∧ i = .int .i64 j ∧ (∀ t, t < j → inB (nth R t).toNat y = false) ∧ Below w.heap.size w wr) (fun i _ => k - (intOf i).toNat)
              case atStart => exact ⟨0, by omega, rfl, fun i hi => absurd hi (by omega), B0⟩
              case round =>
                clear B0
                obtain ⟨j, hj, rfl, hno2, B0⟩ := hrel
                replace hno2 := Lib.hid hno2
                by_cases hjl : j < k
                · have hjk : decide (j < k) = true := decide_eq_true hjl
                  have hjm : (j : Int) < (m : Int) := by omega
                  have x1 := cellX (cellB B0 (hc.out k hlt))
                  rw [hx.out] at x1
                  have z0 := cellX (cellB B0 (hc.out j (by omega)))
                  obtain ⟨e1, e2⟩ := hbig.out j hjl
                  have hz2 := Lib.hid (fun (h : inB (nth R j).toNat y = true) => htk2.out.2 ⟨j, hjl, h⟩)
                  have hstep := Lib.hid (fun (h : inB (nth R j).toNat y = false) => (show ∀ t, t < j + 1 → inB (nth R t).toNat y = false from lt_succ_all hno2.out h))
                  obtain ⟨z, hz⟩ : ∃ z : Nat, nth R j = z := ⟨(nth R j).toNat, by omega⟩
                  rw [hz] at z0 e1 e2 hz2 hstep
                  simp only [Int.toNat_natCast] at hz2 hstep
                  clear hz
                  have a1 := i64_andNot_nat z y (by omega) (by omega)
                  have a2 := i64_andNot_nat y z (by omega) (by omega)
                  have b1 := beq_nat (dif z y) 0
                  have b2 := beq_nat (dif y z) 0
                  have c2 : (dif y z == 0) = false := by
                    rw [beq_eq_false_iff_ne]
                    intro h
                    have := inB_le (dif_zero.1 h)
                    omega
                  rw [c2] at b2
                  replace b1 : (((dif z y : Nat) : Int) == 0) = (dif z y == 0) := b1
                  replace b2 : (((dif y z : Nat) : Int) == 0) = false := b2
                  have hdz := Lib.hid (show (dif z y == 0) = inB z y by rw [Bool.eq_iff_iff, beq_iff_eq]; exact dif_zero)
                  rw [hdz.out] at b1
                  clear c2
                  cases g5 : inB z y
                  · rw [g5] at b1
                    have hs := Lib.hid (hstep.out g5)
                    replace g5 := Lib.hid g5
                    go_wp2
                    refine wp_region_ext (by kernel_rfl) (by kernel_rfl) ?_
                    repeat (go_big_quiet_step (fail))
                    refine wpQuiet_nil ?_
                    rintro ⟨w3, hw3⟩
                    dsimp only
                    clear x1 z0
                    go_wp2
                    go_roundw
                    case rel => exact ⟨j + 1, by omega, by go_num, hs.out, nextB B0 hw3⟩
                    case measure => simp [intOf]; omega
                  · rw [g5] at b1
                    have hf := Lib.hid (hz2.out g5)
                    replace g5 := Lib.hid g5
                    go_wp2
                    refine wp_region_ext (by kernel_rfl) (by kernel_rfl) ?_
                    repeat (go_big_quiet_step (fail))
                    refine wpQuiet_nil ?_
                    rintro ⟨w3, hw3⟩
                    dsimp only
                    clear x1 z0
                    go_wp2
                    go_ret
                    exact endF.out (fun h => by have := (hokk.out.1 h).2.2.2; rw [hf.out] at this; cases this) _ (nextB B0 hw3)
                · obtain rfl : j = k := by omega
                  have hs := Lib.hid (hyes.out (by
                    cases hh : hasOne (R.take j) y
                    · rfl
                    · obtain ⟨t, ht, hin⟩ := htk2.out.1 hh
                      rw [hno2.out t ht] at hin
                      cases hin))
                  go_wp2
                  go_roundw
                  case rel => exact ⟨j + 1, by omega, by go_num, hs.out, B0⟩
                  case measure => simp [intOf]; omega
            · have hpy : (y : Int) ≤ p := of_decide_eq_true g3
              go_wp2
              refine wp_region_ext (by kernel_rfl) (by kernel_rfl) ?_
              repeat (go_big_quiet_step (fail))
              refine wpQuiet_nil ?_
              rintro ⟨w1, hw1⟩
              dsimp only
              go_wp2
              go_ret
              exact endF.out (fun h => by have := (hokk.out.1 h).2.2.1 hk0; rw [p1.out] at this; omega) _ (nextB B0 hw1)
          · have hk1 : k = 0 := by omega
            subst hk1
            clear hpc
            rw [Nat.add_zero] at x0
            have hok0 := Lib.hid (hR.out.succ (hokk.out.2 ⟨hx1, hx2, fun h => absurd h hk0, by simp [hasOne]⟩))
            have hm1 : (0 : Int) < (m : Int) := by omega
            go_wp2
            refine wp_region_ext (by kernel_rfl) (by kernel_rfl) ?_
            repeat (go_big_quiet_step (fail))
            refine wpQuiet_nil ?_
            rintro ⟨w1, hw1⟩
            dsimp only
            clear x0
            go_wp2
            go_loopw [6] (fun i wr => i = .int .i64 0 ∧ Below w.heap.size w wr) (fun i _ => 0)
            case atStart => exact ⟨rfl, nextB B0 hw1⟩
            case round =>
              obtain ⟨rfl, B1⟩ := hrel
              go_wp2
              go_roundw
              case rel => exact ⟨1, by omega, by go_num, hok0.out, B1⟩
              case measure => simp [intOf]; omega
        · have hbx : (N : Int) ≤ x := of_decide_eq_true g2
          clear hpc
          go_wp2
          refine wp_region_ext (by kernel_rfl) (by kernel_rfl) ?_
          repeat (go_big_quiet_step (fail))
          refine wpQuiet_nil ?_
          rintro ⟨w1, hw1⟩
          dsimp only
          go_wp2
          go_ret
          exact endF.out (fun h => by have := (hokk.out.1 h).2.1; omega) _ (nextB B0 hw1)
      · have hbx : x < 1 := of_decide_eq_true g1
        clear hpc
        go_wp2
        refine wp_region_ext (by kernel_rfl) (by kernel_rfl) ?_
        repeat (go_big_quiet_step (fail))
        refine wpQuiet_nil ?_
        rintro ⟨w1, hw1⟩
        dsimp only
        go_wp2
        go_ret
        exact endF.out (fun h => by have := (hokk.out.1 h).1; omega) _ (nextB B0 hw1)
    · obtain rfl : k = m := by omega
      go_wp2
      go_ret
      exact Ret.mk (show Value.bool true = _ by rw [decide_eq_true (hP.out.2 hR.out)]) B0
end Go.Proofs.Ytnnndooagpkgmaa
