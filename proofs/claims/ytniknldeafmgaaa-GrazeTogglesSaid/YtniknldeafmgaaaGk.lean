/- Layer 8, by the program: round. -/
import Derived.Test.YtniknldeafmgaaaGj
namespace Go.Proofs.Ytniknldeafmgaaa
set_option linter.unusedSimpArgs false
set_option linter.unusedVariables false
open Go Go.RowKit

/-- The state after k days. -/
def dayI (a b : Nat) (g : Nat → Nat) : Nat → Nat → Nat
  | 0 => g
  | k + 1 => dayF a b (dayI a b g k)
theorem dayI_P {a b : Nat} {g : Nat → Nat} (h : IsP a b g) : ∀ k, IsP a b (dayI a b g k)
  | 0 => h
  | k + 1 => dayF_P (dayI_P h k)
/-- The states of the first T days. -/
def itL (a b : Nat) (g : Nat → Nat) (T : Nat) : List (Nat → Nat) := (List.range T).map (dayI a b g)
theorem itL_len (a b : Nat) (g : Nat → Nat) (T : Nat) : (itL a b g T).length = T := by simp [itL]
theorem itL_succ (a b : Nat) (g : Nat → Nat) (T : Nat) : itL a b g (T + 1) = itL a b g T ++ [dayI a b g T] := by unfold itL; rw [List.range_succ, List.map_append]; rfl
theorem itL_at (a b : Nat) (g : Nat → Nat) {T k : Nat} (h : k < T) : fAt (itL a b g T) k = dayI a b g k := by simp [fAt, itL, h]
/-- The length of a slice. -/
def lenOf : Value → Nat
  | .slice _ n _ => n
  | _ => 0
theorem own_len {w : World} {base n size : Nat} {e : TypeId} {v : Value} {xs : List Value} (h : w.ownsRow base e size v n xs) : lenOf v = n := by
  rcases h.2 with ⟨rfl, h2⟩ | ⟨g, cap, cur, rfl, _⟩
  · rw [h2]; rfl
  · rfl
set_option maxRecDepth 100000 in
set_option maxHeartbeats 4000000 in
theorem round_any (a b : Nat) (g : Nat → Nat) (T : Nat) (w : World) (hp : IsP a b g) (h1T : 1 ≤ T) (hT12 : T ≤ 1000) (hT : EqG a b (dayI a b g T) g) (hne : ∀ k, 0 < k → k < T → ¬ EqG a b (dayI a b g k) g) :
    Calls Try.prog 62 #[pV a b g] w (NewP a b (itL a b g T) w) := by
  obtain ⟨i0, hi, hz0, hz1, hz2⟩ := info_parts infoP
  have G0 := Lib.hid hi
  have G1 := Lib.hid hz0
  have G2 := Lib.hid hz1
  have G3 := Lib.hid hz2
  clear hi hz0 hz1 hz2
  have hD := Lib.hid (fun k w => day_any a b (dayI a b g k) w (dayI_P hp k))
  have hD0 := Lib.hid (fun w => day_any a b g w hp)
  have k0 := Lib.hid ((Blk.new w 66 (pC a b g)).alloc (.cells (pC a b g) 66))
  have B := Lib.hid (b2 w (.cells (pC a b g) 66) (.cells (pC a b g) 66))
  have hown := World.ownsRow_lit (base := w.heap.size + 1) (e := 66) (size := 8) (w.alloc (.cells (pC a b g) 66)) (pC a b g) 1 (by simp) (by unfold maxLen; omega) rfl
  rw [World.size_alloc] at hown
  replace hown := Lib.hid hown
  replace hT := Lib.hid (decide_eq_true hT)
  replace hne := Lib.hid (fun k h1 h2 => decide_eq_false (hne k h1 h2))
  have hsu := Lib.hid (itL_succ a b g)
  have hln := Lib.hid (itL_len a b g)
  clear hp
  go_enter Try.func62, Try.ntmps62
  go_upto_region 2 with (fail)
  generalize (w.alloc (.cells (pC a b g) 66)).alloc (.cells (pC a b g) 66) = W at *
  obtain ⟨p0, p1, p2, p3, p4, p5, p6, p7⟩ := k0.out.pc
  go_upto_region 3 with (go_at_call 47; (with_reducible refine (hD0.out _).mono ?_); rintro _ w1 ⟨rfl, hw1⟩)
  have hsW := hown.out.lt _ rfl
  have m0 := Lib.hid ((k0.out.ext hw1).alloc (.cells (pC a b (dayF a b g)) 66))
  have mD := Lib.hid (Blk.new w1 66 (pC a b (dayF a b g)))
  have mo := Lib.hid ((owns_next hown.out hw1).alloc (.cells (pC a b (dayF a b g)) 66))
  have mB := Lib.hid ((nextB B.out hw1).trans ((b1 w1 (.cells (pC a b (dayF a b g)) 66)).mono (nextB B.out hw1).size))
  have hs1 := hw1.size
  have e1 : Hid (pL a b (itL a b g 1) = (pC a b g).toList) := Lib.hid rfl
  have e2 : Hid (dayI a b g 1 = dayF a b g) := Lib.hid rfl
  clear hw1 k0 B hown p0 p1 p2 p3 p4 p5 p6 p7 hD0
  go_loopw [3, 4] (fun v q wr => ∃ k D : Nat, 1 ≤ k ∧ k ≤ T ∧ q = .pointer (some ⟨D, 0, none⟩) ∧ w.heap.size < D ∧ Blk wr w.heap.size 66 (pC a b g) ∧ Blk wr D 66 (pC a b (dayI a b g k)) ∧ wr.ownsRow (w.heap.size + 1) 66 8 v k (pL a b (itL a b g k)) ∧ v.ownBlock ≠ some D ∧ Below w.heap.size w wr) (fun v _ _ => T - (lenOf v))
  case atStart => exact ⟨1, w1.heap.size, Nat.le_refl _, h1T, rfl, by omega, m0.out, by rw [e2.out]; exact mD.out, by rw [e1.out]; exact mo.out, by simp [Value.ownBlock]; omega, mB.out⟩
  case round =>
    clear m0 mD mo mB hs1 hsW
    obtain ⟨k, D, hk1, hkT, rfl, hD1, k0, kD, hown, hnD, B⟩ := hrel
    obtain ⟨ad, cap, rfl, hcap, hH⟩ := own_past hown (hln.out k)
    have hH := Lib.hid hH
    have hs2 := kD.lt
    have hs1 := k0.lt
    obtain ⟨p0, p1, p2, p3, p4, p5, p6, p7⟩ := k0.pc
    obtain ⟨d0, d1, d2, d3, d4, d5, d6, d7⟩ := kD.pc
    replace B := Lib.hid B
    have hsB := B.out.size
    by_cases hlt : k < T
    · have hq := hne.out k (by omega) hlt
      have hDk := Lib.hid (hD.out k)
      have hsu' := Lib.hid (hsu.out k)
      have hIs : Hid (dayI a b g (k + 1) = dayF a b (dayI a b g k)) := Lib.hid rfl
      obtain ⟨f, hf⟩ : ∃ f, Hid (dayI a b g k = f) := ⟨_, Lib.hid rfl⟩
      rw [hf.out] at kD d2 d3 d4 d5 d6 d7 hDk hsu' hIs hq
      have hc8 := Lib.hid (cell8_new wr a b f 66)
      have hl0 := Lib.hid (hln.out k)
      replace k0 := Lib.hid k0
      replace kD := Lib.hid kD
      replace hown := Lib.hid hown
      replace hnD := Lib.hid hnD
      have hkM : k + 1 ≤ 3000000 := by omega
      go_upto_region 4 with (at_builtin; refine wpList_append_ownX _ rfl _ _ 79 rfl (w.heap.size + 1) 66 i0 (.agg zC) 8 64 Try.underlying79 G0.out G1.out G2.out G3.out rfl (by decide) _ _ _ rfl (hown.out.alloc _) ⟨_, 0, none⟩ 1 1 (pC a b f).toList rfl rfl (by decide) hc8.out (by simp [Value.oneCell']) (by unfold maxLen; omega) (by omega) (by simp; omega) ?_; intro v' w5 hown5 hgrow hfr5; have kD5 := blk_grown (kD.out.alloc _) hgrow (fun e => hnD.out e.symm); have k05 := blk_grown (k0.out.alloc _) hgrow (fun e => by have := (hown.out.lt _ e.symm).1; omega); have B5 := Lib.hid ((B.out.alloc hsB _).grown hgrow (by simp; omega) (fun q hq => by have := (hown.out.lt q hq).1; omega)); clear p0 p1 p2 p3 p4 p5 p6 p7 d0 d1 d2 d3 d4 d5 d6 d7; obtain ⟨d0, d1, d2, d3, d4, d5, d6, d7⟩ := kD5.pc; replace kD5 := Lib.hid kD5; replace k05 := Lib.hid k05)
      have B5' := B5.out
      have hs5 := B5'.size
      have m0 := Lib.hid (k05.out.alloc (.cells (pC a b f) 66))
      have mD := Lib.hid (Blk.new w5 66 (pC a b f))
      have mo := Lib.hid (hown5.alloc (.cells (pC a b f) 66))
      have mB := Lib.hid (B5'.alloc hs5 (.cells (pC a b f) 66))
      have hv5 : Hid (v'.ownBlock ≠ some w5.heap.size) := Lib.hid (fun e => by have := (hown5.lt _ e).2; omega)
      have hs0 := k05.out.lt
      have hlv : Hid (lenOf v' = k + 1) := Lib.hid (own_len hown5)
      clear hown5 hgrow hfr5 kD5 k05 B5 B5' d0 d1 d2 d3 d4 d5 d6 d7 k0 kD hown hnD B hc8 hH hsB hs1 hs2 hs5
      generalize hE : w5.alloc (.cells (pC a b f) 66) = W5 at *
      clear hE
      generalize w5.heap.size = D5 at *
      obtain ⟨d0, d1, d2, d3, d4, d5, d6, d7⟩ := mD.out.pc
      go_wp2_with (go_at_call 47; (with_reducible refine (hDk.out _).mono ?_); rintro _ w6 ⟨rfl, hw6⟩; have l0 := m0.out.ext hw6; have lD := mD.out.ext hw6; have lo := owns_next mo.out hw6; have lB := nextB mB.out hw6; clear d0 d1 d2 d3 d4 d5 d6 d7 m0 mD mo mB hw6; obtain ⟨d0, d1, d2, d3, d4, d5, d6, d7⟩ := lD.pc; have fD := lD.fr; have x0 := Lib.hid (l0.put8 (B := D5) (a := a) (b := b) (g := dayF a b f) (by omega)); have xD := Lib.hid (blk_set8 lD a b (dayF a b f)); have xo := Lib.hid (lo.kept (grown_put8 w6 D5 a b (dayF a b f)) (.inr hv5.out)); have xB := Lib.hid (lB.trans (below_grown (grown_put8 w6 D5 a b (dayF a b f)) lB.size (Nat.le_of_lt hs0))); clear l0 lD lo lB)
      go_roundw
      case rel => exact ⟨k + 1, D5, by omega, hlt, rfl, hs0, x0.out, by rw [hIs.out]; exact xD.out, by rw [hsu'.out, pL_snoc]; exact xo.out, hv5.out, xB.out⟩
      case measure =>
        have h1 := hlv.out
        rw [h1]
        show T - (k + 1) < T - k
        omega
    · have ek : Hid (k = T) := Lib.hid (by omega)
      have hq := hT.out
      rw [← ek.out] at hq
      have hl := Lib.hid (hln.out k)
      go_wp2
      go_ret
      refine ⟨ad, cap, by rw [← ek.out, hl.out]; rfl, by rw [← ek.out, hl.out]; exact hcap, ?_, B.out⟩
      rw [← ek.out]
      intro h0
      obtain ⟨Bk, h1, h2, h3⟩ := hH.out h0
      exact ⟨Bk, h1, by omega, h3⟩
end Go.Proofs.Ytniknldeafmgaaa
