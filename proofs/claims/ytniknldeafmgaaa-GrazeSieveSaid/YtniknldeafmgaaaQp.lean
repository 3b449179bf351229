/- Layer 8, the specification: Same; the law. -/
import Derived.Test.YtniknldeafmgaaaQo
import Derived.Test.YtniknldeafmgaaaPg
import Derived.Test.YtniknldeafmgaaaVs
namespace Go.Proofs.Ytniknldeafmgaaa
set_option linter.unusedSimpArgs false
set_option linter.unusedVariables false
open Go Go.RowKit

set_option maxRecDepth 100000 in
set_option maxHeartbeats 4000000 in
theorem refSame_yes (a b : Nat) (days : Int) (w : World) (ha : 1 ≤ a ∧ a ≤ 6) (hb : 1 ≤ b ∧ b ≤ 6) :
    Calls Try.prog 39 #[.int .i64 (a : Int), .int .i64 (b : Int), .int .i64 days] w (Ret (.tuple #[.int .i64 ((sameN a b (dmod a b days) : Nat) : Int), .int .i64 0]) w) := by
  have hP : ∀ w, Calls Try.prog 42 #[.int .i64 (a : Int), .int .i64 (b : Int)] w (Only (.int .i64 0) w) := fun w => by have := Pasture_any (a : Int) (b : Int) w; rwa [show psE (a : Int) (b : Int) = 0 from if_pos (by unfold SzP; omega)] at this
  have hSt := Lib.hid (fun w => states_any a b w ha hb.2)
  have hlen : (brs a b).length ≤ 262144 := brs_lt (by omega) (by omega)
  have hpos : 0 < (brs a b).length := by rw [← stT_all]; exact stT_pos a b a _
  have hcs := Lib.hid (fun m (h : m < (brs a b).length) => count_succ (smB a b (dmod a b days)) h)
  have hfin : Hid (((brs a b).take (brs a b).length).countP (smB a b (dmod a b days)) = sameN a b (dmod a b days)) := Lib.hid (by rw [List.take_length]; rfl)
  have hWi := Lib.hid (fun w => within_any a b days w ha hb)
  have hlt := dmod_lt (b := b) ha.1 days
  have hA := Lib.hid (fun f (h : f ∈ brs a b) ad c w hI => refAfter_any a b (dmod a b days) f ad c w (brs_S ha hb h) hI (by omega))
  have hSm := Lib.hid (fun f (h : f ∈ brs a b) av ad' cv c' w (h1 : Ints w av (stL a (dayI a b f (dmod a b days)))) (h2 : Ints w ad' (stL a f)) => (by
    have hs := brs_S ha hb h
    have := refsame_any av ad' a cv c' _ _ w h1 h2 (stL_len _ _) (stL_len _ _) (by omega) (by omega)
    have e : decide (stL a (dayI a b f (dmod a b days)) = stL a f) = smB a b (dmod a b days) f := by
      unfold smB
      exact decide_eq_decide.2 ⟨fun e => (eqG_iff ha.2 (dayI_S hs _).zr hs.zr).2 (stL_inj (dayI_S hs _) hs e), fun e => by rw [(eqG_iff ha.2 (dayI_S hs _).zr hs.zr).1 e]⟩
    rwa [e] at this : Calls Try.prog 61 #[.slice av a cv, .slice ad' a c'] w (Ret (.bool (smB a b (dmod a b days) f)) w)))
  have hmem := Lib.hid (fun k (h : k < (brs a b).length) => fAt_mem h)
  generalize brs a b = L at *
  generalize dmod a b days = d at *
  obtain ⟨z, hz⟩ : ∃ n, Hid (sameN a b d = n) := ⟨_, Lib.hid rfl⟩
  rw [hz.out] at hfin ⊢
  have hle : ∀ m, Hid ((L.take m).countP (smB a b d) ≤ m) := fun m => Lib.hid (Nat.le_trans List.countP_le_length (by rw [List.length_take]; omega))
  replace hle := Lib.hid hle
  obtain ⟨cn, hcn⟩ : ∃ cn : Nat → Nat, Hid (∀ m, (L.take m).countP (smB a b d) = cn m) := ⟨_, Lib.hid fun _ => rfl⟩
  replace hcs : Hid (∀ m, m < L.length → cn (m + 1) = cn m + if smB a b d (fAt L m) then 1 else 0) := Lib.hid (fun m h => by rw [← hcn.out, ← hcn.out]; exact hcs.out m h)
  replace hfin : Hid (cn L.length = z) := Lib.hid (by rw [← hcn.out]; exact hfin.out)
  replace hle : Hid (∀ m, cn m ≤ m) := Lib.hid (fun m => by rw [← hcn.out]; exact (hle.out m).out)
  have hc0 : Hid (cn 0 = 0) := Lib.hid (by rw [← hcn.out]; rfl)
  obtain ⟨n, hn⟩ : ∃ n, Hid (L.length = n) := ⟨_, Lib.hid rfl⟩
  rw [hn.out] at hlen hpos hcs hfin hmem
  obtain ⟨ha1, ha6⟩ := ha
  obtain ⟨hb1, hb6⟩ := hb
  clear hcn hz
  go_enter Try.func39, Try.ntmps39
  go_upto_region 6 with (first
    | (go_at_call 42; refine (hP _).mono ?_; rintro _ _ ⟨rfl, rfl⟩)
    | (go_at_call 45; (with_reducible refine (hSt.out _).mono ?_); rintro _ w2 ⟨v, G, rfl, hG, hown, hTC, hw2⟩))
  rw [hn.out] at hG hown
  obtain ⟨Bt, cL, e⟩ := own_pos hown hpos
  subst e
  have hY := Lib.hid (rowsI_of hG.symm hn.out hown hTC)
  have B0 := Lib.hid hw2
  clear hG hown hTC hw2 hSt
  go_wp2
  go_loopw [9, 11] (fun p i wr => ∃ k : Nat, k ≤ n ∧ p = .int .i64 ((cn k : Nat) : Int) ∧ i = .int .i64 (k : Int) ∧ RowsI wr Bt a L ∧ Below w.heap.size w wr) (fun _ i _ => n - (intOf i).toNat)
  case atStart => exact ⟨0, Nat.zero_le _, by rw [hc0.out]; rfl, rfl, hY.out, B0.out⟩
  case round =>
    clear hY B0
    obtain ⟨k, hk, rfl, rfl, hY, B0⟩ := hrel
    replace hY := Lib.hid hY
    replace B0 := Lib.hid B0
    by_cases hlt : k < n
    · have hlt' : (k : Int) < (n : Int) := by omega
      have hk0 : (0 : Int) ≤ (k : Int) := by omega
      have hm := hmem.out k hlt
      obtain ⟨ar, cr, la, hx⟩ := hY.out k (by rw [hn.out]; exact hlt)
      have hck := hle.out k
      have hcs1 := Lib.hid (hcs.out k hlt)
      have hAf := Lib.hid (hA.out _ hm)
      have hSf := Lib.hid (hSm.out _ hm)
      replace hx := Lib.hid hx
      generalize fAt L k = f at *
      replace hm := Lib.hid hm
      go_wp2_with (fail)
      refine wp_region_S (fun W => Below wr.heap.size wr W) (by kernel_rfl) ?_
      show wpAnyS _ _ _ _ _ (15 + 1) _ _ _
      have hd := (Below.refl wr.heap.size wr).drew
      generalize wr.drew = w3 at *
      refine anyS_pure 0 (.int .i64 (a : Int)) rfl (by kernel_rfl) (by kernel_rfl) (by kernel_rfl) (fun _ _ _ h => h) (by rfl) (fun W hW => by go_simp) hd ?_
      try dsimp only [Act.put]
      try simp only [List.setIfInBounds_toArray, List.set_cons_zero, List.set_cons_succ]
      refine anyS_pure 1 (.int .i64 (b : Int)) rfl (by kernel_rfl) (by kernel_rfl) (by kernel_rfl) (fun _ _ _ h => h) (by rfl) (fun W hW => by go_simp) hd ?_
      try dsimp only [Act.put]
      try simp only [List.setIfInBounds_toArray, List.set_cons_zero, List.set_cons_succ]
      refine anyS_pure 2 (.slice (some ⟨Bt, 0, none⟩) n cL) rfl (by kernel_rfl) (by kernel_rfl) (by kernel_rfl) (fun _ _ _ h => h) (by rfl) (fun W hW => by go_simp) hd ?_
      try dsimp only [Act.put]
      try simp only [List.setIfInBounds_toArray, List.set_cons_zero, List.set_cons_succ]
      refine anyS_pure 3 (.int .i64 (k : Int)) rfl (by kernel_rfl) (by kernel_rfl) (by kernel_rfl) (fun _ _ _ h => h) (by rfl) (fun W hW => by go_simp) hd ?_
      try dsimp only [Act.put]
      try simp only [List.setIfInBounds_toArray, List.set_cons_zero, List.set_cons_succ]
      refine anyS_pure 4 (.pointer (some ⟨Bt, k, none⟩)) rfl (by kernel_rfl) (by kernel_rfl) (by kernel_rfl) (fun _ _ _ h => h) (by rfl) (fun W hW => by go_simp) hd ?_
      try dsimp only [Act.put]
      try simp only [List.setIfInBounds_toArray, List.set_cons_zero, List.set_cons_succ]
      refine anyS_pure 5 (.slice ar a cr) rfl (by kernel_rfl) (by kernel_rfl) (by kernel_rfl) (fun _ _ _ h => h) (by rfl) (fun W hW => by have la' := cellB hW la; go_simp) hd ?_
      try dsimp only [Act.put]
      try simp only [List.setIfInBounds_toArray, List.set_cons_zero, List.set_cons_succ]
      refine anyS_pure 6 (.int .i64 (a : Int)) rfl (by kernel_rfl) (by kernel_rfl) (by kernel_rfl) (fun _ _ _ h => h) (by rfl) (fun W hW => by go_simp) hd ?_
      try dsimp only [Act.put]
      try simp only [List.setIfInBounds_toArray, List.set_cons_zero, List.set_cons_succ]
      refine anyS_pure 7 (.int .i64 (b : Int)) rfl (by kernel_rfl) (by kernel_rfl) (by kernel_rfl) (fun _ _ _ h => h) (by rfl) (fun W hW => by go_simp) hd ?_
      try dsimp only [Act.put]
      try simp only [List.setIfInBounds_toArray, List.set_cons_zero, List.set_cons_succ]
      refine anyS_pure 8 (.int .i64 days) rfl (by kernel_rfl) (by kernel_rfl) (by kernel_rfl) (fun _ _ _ h => h) (by rfl) (fun W hW => by go_simp) hd ?_
      try dsimp only [Act.put]
      try simp only [List.setIfInBounds_toArray, List.set_cons_zero, List.set_cons_succ]
      refine anyS_pure 11 (.slice (some ⟨Bt, 0, none⟩) n cL) rfl (by kernel_rfl) (by kernel_rfl) (by kernel_rfl) (fun _ _ _ h => h) (by rfl) (fun W hW => by go_simp) hd ?_
      try dsimp only [Act.put]
      try simp only [List.setIfInBounds_toArray, List.set_cons_zero, List.set_cons_succ]
      refine anyS_pure 12 (.int .i64 (k : Int)) rfl (by kernel_rfl) (by kernel_rfl) (by kernel_rfl) (fun _ _ _ h => h) (by rfl) (fun W hW => by go_simp) hd ?_
      try dsimp only [Act.put]
      try simp only [List.setIfInBounds_toArray, List.set_cons_zero, List.set_cons_succ]
      refine anyS_pure 13 (.pointer (some ⟨Bt, k, none⟩)) rfl (by kernel_rfl) (by kernel_rfl) (by kernel_rfl) (fun _ _ _ h => h) (by rfl) (fun W hW => by go_simp) hd ?_
      try dsimp only [Act.put]
      try simp only [List.setIfInBounds_toArray, List.set_cons_zero, List.set_cons_succ]
      refine anyS_pure 14 (.slice ar a cr) rfl (by kernel_rfl) (by kernel_rfl) (by kernel_rfl) (fun _ _ _ h => h) (by rfl) (fun W hW => by have la' := cellB hW la; go_simp) hd ?_
      try dsimp only [Act.put]
      try simp only [List.setIfInBounds_toArray, List.set_cons_zero, List.set_cons_succ]
      refine anyS_one 9 (by kernel_rfl) rfl ?_
      go_wp2_with (go_at_call 55; (with_reducible refine (hWi.out _).mono ?_); rintro _ _ ⟨rfl, rfl⟩)
      show _ ∧ _
      refine ⟨hd, ?_⟩
      refine anyS_one 10 (by kernel_rfl) rfl ?_
      go_wp2_with (go_at_call 54; (with_reducible refine (hAf.out _ _ _ (hx.out.next hd)).mono ?_); rintro _ w4 ⟨ad2, c2, rfl, hI2, hw4⟩)
      show _ ∧ _
      have hd4 := nextB hd hw4
      have hx4 := hx.out.next hd4
      refine ⟨hd4, ?_⟩
      refine anyS_one 15 (by kernel_rfl) rfl ?_
      go_wp2_with (go_at_call 61; (with_reducible refine (hSf.out _ _ _ _ _ hI2 hx4).mono ?_); rintro _ w5 ⟨rfl, hw5⟩)
      show _ ∧ _
      have hd5 := nextB hd4 hw5
      refine ⟨hd5, anyS_end (by kernel_rfl) ?_⟩
      try dsimp only
      have mY := Lib.hid (hY.out.next hd5)
      have mB := Lib.hid (nextB B0.out hd5)
      clear hd hd4 hd5 hw4 hw5 hx4 hI2
      cases hq : smB a b d f
      · have e : Hid (cn (k + 1) = cn k) := Lib.hid (by have := hcs1.out; rw [hq] at this; simpa using this)
        replace hq := Lib.hid hq
        go_wp2
        go_roundw
        case rel => exact ⟨k + 1, by omega, by rw [e.out], by go_num, mY.out, mB.out⟩
        case measure => simp [intOf]; omega
      · have e : Hid (cn (k + 1) = cn k + 1) := Lib.hid (by have := hcs1.out; rw [hq] at this; simpa using this)
        replace hq := Lib.hid hq
        go_wp2
        go_roundw
        case rel => exact ⟨k + 1, by omega, by rw [e.out]; go_num, by go_num, mY.out, mB.out⟩
        case measure => simp [intOf]; omega
    · have hlt' : (n : Int) ≤ (k : Int) := by omega
      obtain rfl : k = n := by omega
      rw [hfin.out]
      go_wp2
      go_ret2
      exact Ret.mk rfl B0.out
theorem refSame_no (a b days : Int) (w : World) (h : ¬ SzP a b) : Calls Try.prog 39 #[.int .i64 a, .int .i64 b, .int .i64 days] w (Only (.tuple #[.int .i64 0, .int .i64 2]) w) := by
  have hP : ∀ w, Calls Try.prog 42 #[.int .i64 a, .int .i64 b] w (Only (.int .i64 2) w) := fun w => by have := Pasture_any a b w; rwa [show psE a b = 2 from if_neg h] at this
  clear h
  go_enter Try.func39, Try.ntmps39
  go_wp2_with (go_at_call 42; refine (hP _).mono ?_; rintro _ _ ⟨rfl, rfl⟩)
  go_ret2
  exact ⟨rfl, rfl⟩
theorem both_same (a b days : Int) : ∃ x r : Int, ∀ w, Calls Try.prog 38 #[.int .i64 a, .int .i64 b, .int .i64 days] w (Ret (.tuple #[.int .i64 x, .int .i64 r]) w) ∧ Calls Try.prog 39 #[.int .i64 a, .int .i64 b, .int .i64 days] w (Ret (.tuple #[.int .i64 x, .int .i64 r]) w) := by
  by_cases hs : SzP a b
  · have h := hs
    unfold SzP at h
    obtain ⟨A, rfl⟩ : ∃ A : Nat, a = A := ⟨a.toNat, by omega⟩
    obtain ⟨B, rfl⟩ : ∃ B : Nat, b = B := ⟨b.toNat, by omega⟩
    exact ⟨_, 0, fun w => ⟨Same_yes A B days w (by omega) (by omega), refSame_yes A B days w (by omega) (by omega)⟩⟩
  · exact ⟨0, 2, fun w => ⟨(Same_no a b days w hs).mono fun _ _ k => ⟨k.1, by rw [← k.2]; exact Below.refl _ _⟩, (refSame_no a b days w hs).mono fun _ _ k => ⟨k.1, by rw [← k.2]; exact Below.refl _ _⟩⟩⟩
set_option maxRecDepth 100000 in
theorem sames_law (a b days : Int) (w : World) : Calls Try.prog 7 #[.int .i64 a, .int .i64 b, .int .i64 days] w (Ret (.bool true) w) := by
  obtain ⟨x, r, hX⟩ := both_same a b days
  replace hX := Lib.hid hX
  go_enter Try.func7, Try.ntmps7
  go_wp2_with (first
    | (go_at_call 38; (with_reducible refine ((hX.out _).1).mono ?_); rintro _ w1 ⟨rfl, hw1⟩)
    | (go_at_call 39; (with_reducible refine ((hX.out _).2).mono ?_); rintro _ w2 ⟨rfl, hw2⟩)
    | (go_at_call 15; refine (alive_any _).mono ?_; rintro _ w3 ⟨rfl, hw3⟩))
  go_ret
  exact ⟨rfl, nextB (nextB hw1 hw2) hw3⟩
end Go.Proofs.Ytniknldeafmgaaa
