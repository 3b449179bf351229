/- Layer 8, by the program: modulo, after, Days. -/
import Derived.Test.YtniknldeafmgaaaNb
namespace Go.Proofs.Ytniknldeafmgaaa
set_option linter.unusedSimpArgs false
set_option linter.unusedVariables false
open Go Go.RowKit

theorem tmod_twice (n : Int) (t : Nat) (h1 : 0 < t) (h2 : t ≤ 1000) : (wrap64 (n.tmod (t : Int) + (t : Int))).tmod (t : Int) = n % (t : Int) := by
  have e1 : -(t : Int) < n.tmod (t : Int) ∧ n.tmod (t : Int) < (t : Int) := by
    have h := Int.natAbs_tmod n (t : Int)
    have h3 : n.natAbs % t < t := Nat.mod_lt _ (by omega)
    rw [Int.natAbs_natCast] at h
    omega
  have e2 : wrap64 (n.tmod (t : Int) + (t : Int)) = n.tmod (t : Int) + (t : Int) := by
    unfold wrap64; omega
  rw [e2, Int.tmod_eq_emod_of_nonneg (by omega), Int.tmod_def]
  have e3 : n - (t : Int) * n.tdiv (t : Int) + (t : Int) = n + (t : Int) * (1 - n.tdiv (t : Int)) := by
    rw [Int.mul_sub, Int.mul_one]; omega
  rw [e3, Int.add_mul_emod_self_left]
theorem modulo_any (n : Int) (t : Nat) (w : World) (h1 : 0 < t) (h2 : t ≤ 1000) : Calls Try.prog 73 #[.int .i64 n, .int .i64 (t : Int)] w (Only (.int .i64 (n % (t : Int))) w) := by
  have ht : (0 : Int) < (t : Int) := by omega
  have ht2 : (t : Int) ≤ 1000 := by omega
  have e := Lib.hid (tmod_twice n t h1 h2)
  go_enter Try.func73, Try.ntmps73
  go_wp2
  go_ret
  exact Only.mk (congrArg (Value.int .i64) e.out)
/-- Days, modulo the rows and columns together. -/
def dmod (a b : Nat) (days : Int) : Nat := (days % ((a + b : Nat) : Int)).toNat
theorem IsT.days {a b T : Nat} {g : Nat → Nat} (h : IsT a b g T) (hs : IsS a b g) (days : Int) : dayI a b g (days % (T : Int)).toNat = dayI a b g (dmod a b days) := by
  have h1 := h.t1
  have ha := hs.p.a1
  have hb := hs.p.b1
  rw [h.mod (dmod a b days)]
  congr 1
  unfold dmod
  have e1 : (T : Int) ∣ ((a + b : Nat) : Int) := Int.natCast_dvd_natCast.2 (Nat.dvd_of_mod_eq_zero (h.per hs))
  have e2 : 0 ≤ days % ((a + b : Nat) : Int) := Int.emod_nonneg _ (by omega)
  have e3 : (((days % ((a + b : Nat) : Int)).toNat % T : Nat) : Int) = days % (T : Int) := by
    rw [Int.natCast_emod, Int.toNat_of_nonneg e2, Int.emod_emod_of_dvd _ e1]
  rw [← e3]; rfl
theorem dmod_lt {a b : Nat} (h : 1 ≤ a) (days : Int) : dmod a b days < a + b := by
  unfold dmod
  have := Int.emod_lt_of_pos days (show (0 : Int) < ((a + b : Nat) : Int) by omega)
  have := Int.emod_nonneg days (show ((a + b : Nat) : Int) ≠ 0 by omega)
  omega
set_option maxRecDepth 100000 in
set_option maxHeartbeats 4000000 in
theorem after_any (a b : Nat) (g : Nat → Nat) (days : Int) (w : World) (hs : IsS a b g) : Calls Try.prog 53 #[pV a b g, .int .i64 days] w (Ret (pV a b (dayI a b g (dmod a b days))) w) := by
  obtain ⟨T, hT⟩ := isT_ex hs
  have h1 := hT.t1
  have h2 := hT.tl
  have ha := hs.p.a6
  have hb := hs.p.b6
  have e := hT.days hs days
  rw [← e]
  have hr0 := Int.emod_nonneg days (show (T : Int) ≠ 0 by omega)
  have hrT := Int.emod_lt_of_pos days (show (0 : Int) < (T : Int) by omega)
  have hR := Lib.hid (fun w => round_any a b g T w hs.p h1 (by omega) ((eqG_iff ha (dayI_S hs T).zr hs.zr).2 hT.eq) (fun k k1 k2 h => hT.ne k k1 k2 ((eqG_iff ha (dayI_S hs k).zr hs.zr).1 h)))
  have hM := Lib.hid (fun w => modulo_any days T w h1 (by omega))
  have hat := Lib.hid (fun k (h : k < T) => itL_at a b g h)
  have hln := Lib.hid (itL_len a b g T)
  have k0 := Lib.hid ((Blk.new w 66 (pC a b g)).alloc (.cells zC 66))
  have k1 := Blk.new (w.alloc (.cells (pC a b g) 66)) 66 zC
  rw [World.size_alloc] at k1
  replace k1 := Lib.hid k1
  have B := Lib.hid (b2 w (.cells (pC a b g) 66) (.cells zC 66))
  clear e hs hT ha hb h2
  go_enter Try.func53, Try.ntmps53
  go_upto_region 1 with (fail)
  generalize (w.alloc (.cells (pC a b g) 66)).alloc (.cells zC 66) = W at *
  obtain ⟨p0, p1, p2, p3, p4, p5, p6, p7⟩ := k0.out.pc
  go_upto_region 2 with (go_at_call 62; (with_reducible refine (hR.out _).mono ?_); rintro _ w1 ⟨ad, c, rfl, hc, hH, hw1⟩)
  have hH := Lib.hid hH
  rw [hln.out] at hc
  obtain ⟨Bk, hBk⟩ := hH.out (by rw [hln.out]; omega)
  obtain ⟨rfl, hB1, hB2⟩ := hBk
  rw [hln.out]
  generalize hrr : days % (T : Int) = r at *
  obtain ⟨rn, rfl⟩ : ∃ rn : Nat, r = (rn : Int) := ⟨r.toNat, by omega⟩
  have hrn : rn < T := by omega
  obtain ⟨d0, d1, d2, d3, d4, d5, d6, d7⟩ := hB2.pc (i := rn) (by rw [hln.out]; exact hrn)
  rw [hat.out rn hrn] at d2 d3 d4 d5 d6 d7
  have l1 := k1.out.ext hw1
  have lB := Lib.hid (nextB B.out hw1)
  clear p0 p1 p2 p3 p4 p5 p6 p7 k0 k1 B hR hH hB1 hB2 hw1 hrr
  obtain ⟨r0, r1, r2, r3, r4, r5, r6, r7⟩ := l1.zc
  have f1 := l1.fr
  have hf : dayI a b g ((rn : Int)).toNat = dayI a b g rn := by rw [Int.toNat_natCast]
  generalize dayI a b g rn = f at *
  replace hf := Lib.hid hf
  have X2 := Lib.hid (end_put (a := a) (b := b) (g := f) (w := w) (D := w.heap.size + 1) (by omega) lB.out l1)
  clear l1
  go_wp2_with (go_at_call 73; (with_reducible refine (hM.out _).mono ?_); rintro _ _ ⟨rfl, rfl⟩)
  exact bodyPost_ret (results_p rfl X2.out.1 rfl) rfl (Ret.mk (by rw [hf.out]) X2.out.2)
theorem days1_any (a b : Nat) (g : Nat → Nat) (days : Int) (D : Nat) (t : TypeId) (w : World) (hs : IsS a b g) (hD : Blk w D t #[.int .i64 days]) : Calls Try.prog 52 #[pV a b g, .pointer (some ⟨D, 0, none⟩)] w (Ret (pV a b (dayI a b g (dmod a b days))) w) := by
  have hA := Lib.hid (fun w => after_any a b g days w hs)
  have hDl := hD.lt
  have k0 := Lib.hid ((Blk.new w 66 (pC a b g)).alloc (.cells zC 66))
  have k1 := Blk.new (w.alloc (.cells (pC a b g) 66)) 66 zC
  rw [World.size_alloc] at k1
  replace k1 := Lib.hid k1
  have kD := Lib.hid ((hD.alloc (.cells (pC a b g) 66)).alloc (.cells zC 66))
  have B := Lib.hid (b2 w (.cells (pC a b g) 66) (.cells zC 66))
  clear hs hD
  go_enter Try.func52, Try.ntmps52
  go_upto_region 1 with (fail)
  generalize (w.alloc (.cells (pC a b g) 66)).alloc (.cells zC 66) = W at *
  obtain ⟨p0, p1, p2, p3, p4, p5, p6, p7⟩ := k0.out.pc
  have q0 := kD.out.c 0 rfl
  generalize dayI a b g (dmod a b days) = f at *
  go_wp2_with (go_at_call 53; (with_reducible refine (hA.out _).mono ?_); rintro _ w1 ⟨rfl, hw1⟩; have l1 := k1.out.ext hw1; have lB := nextB B.out hw1; clear p0 p1 p2 p3 p4 p5 p6 p7 q0; obtain ⟨r0, r1, r2, r3, r4, r5, r6, r7⟩ := l1.zc; have f1 := l1.fr; have X2 := Lib.hid (end_put (a := a) (b := b) (g := f) (w := w) (D := w.heap.size + 1) (by omega) lB l1); clear l1 lB)
  exact bodyPost_ret (results_p rfl X2.out.1 rfl) rfl (Ret.mk rfl X2.out.2)
theorem entersDays1 (args : Array Value) (W : World) : (callFunc 52 args).run Try.prog W = .ok (.enter 52 args) W := by go_simp
theorem Days_yes (a b : Nat) (g : Nat → Nat) (days : Int) (ad : Option Addr) (c : Nat) (w : World) (h : IsS a b g) (hI : Ints w ad (stL a g)) :
    Calls Try.prog 21 #[.int .i64 (a : Int), .int .i64 (b : Int), .slice ad a c, .int .i64 days] w (CopyE (stL a (dayI a b g (dmod a b days))) w) := by
  have kD := Blk.new w 3 #[.int .i64 days]
  have hC := changed_yes a b g (dayI a b g (dmod a b days)) 52 #[.pointer (some ⟨w.heap.size, 0, none⟩)] ad c (w.alloc (.cells #[.int .i64 days] 3)) h (dayI_P h.p _) (hI.next (b1 _ _)) entersDays1 (fun W hW => days1_any a b g days _ _ W h (kD.ext hW))
  replace hC := Lib.hid hC
  clear h hI kD
  go_enter Try.func21, Try.ntmps21
  go_wp2_with (go_at_call 46; (refine hC.out.mono ?_); rintro _ w1 ⟨G, c1, rfl, hc1, hG, hcell, hw1⟩)
  go_ret2
  exact ⟨G, c1, rfl, hc1, by simp at hG; omega, hcell, nextB (b1 _ _) hw1⟩
theorem Days_no (a b : Int) (xs : List Int) (days : Int) (ad : Option Addr) (n c : Nat) (w : World) (hI : Ints w ad xs) (hl : xs.length = n) (h : ¬ StP a b xs) :
    Calls Try.prog 21 #[.int .i64 a, .int .i64 b, .slice ad n c, .int .i64 days] w (ErrL 2 w) := by
  have hC := Lib.hid (fun fv => changed_no a b xs ad n c fv (w.alloc (.cells #[.int .i64 days] 3)) (hI.next (b1 _ _)) hl h)
  clear h hI hl
  go_enter Try.func21, Try.ntmps21
  go_wp2_with (go_at_call 46; refine (hC.out _).mono ?_; rintro _ w1 ⟨rfl, hw1⟩)
  go_ret2
  exact Ret.mk rfl (nextB (b1 _ _) hw1)
end Go.Proofs.Ytniknldeafmgaaa
