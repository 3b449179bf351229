/- Layer 8, by the program: Same. -/
import Derived.Test.YtniknldeafmgaaaGm
namespace Go.Proofs.Ytniknldeafmgaaa
set_option linter.unusedSimpArgs false
set_option linter.unusedVariables false
open Go Go.RowKit

theorem brs_dn : ∀ (k C : Nat) (f : Nat → Nat), f ∈ brs k C → ∀ i, f (i + 1) ≤ f i
  | 0, C, f, h, i => by
    rw [brs, List.mem_singleton] at h
    subst h
    exact Nat.le_refl _
  | k + 1, C, f, h, i => by
    rw [brs, List.mem_flatMap] at h
    obtain ⟨g, hg, hf⟩ := h
    have hk := brs_isK k C g hg
    have ih := brs_dn k C g hg
    unfold oneF at hf
    obtain ⟨s, hs, rfl⟩ := List.mem_map.1 hf
    have hs' : s ≤ mo C g k := by have := List.mem_range.1 hs; omega
    unfold upf
    by_cases e : i = k
    · subst e
      rw [if_neg (by omega), if_pos rfl, hk.2 (i + 1) (by omega)]; omega
    · by_cases e2 : i + 1 = k
      · subst e2
        rw [if_pos rfl, if_neg e]
        rw [mo_succ] at hs'
        exact hs'
      · rw [if_neg e2, if_neg e]; exact ih i
theorem brs_S {a b : Nat} {f : Nat → Nat} (ha : 1 ≤ a ∧ a ≤ 6) (hb : 1 ≤ b ∧ b ≤ 6) (h : f ∈ brs a b) : IsS a b f :=
  ⟨brs_P ha hb (brs_isK a b f h), brs_dn a b f h, (brs_isK a b f h).2⟩
/-- Is the state the same after so many days? -/
def smB (a b d : Nat) (f : Nat → Nat) : Bool := decide (EqG a b (dayI a b f d) f)
/-- The number of states that are the same. -/
def sameN (a b d : Nat) : Nat := (brs a b).countP (smB a b d)
theorem count_succ {l : List (Nat → Nat)} {m : Nat} (p : (Nat → Nat) → Bool) (h : m < l.length) : (l.take (m + 1)).countP p = (l.take m).countP p + if p (fAt l m) then 1 else 0 := by
  rw [List.take_succ_eq_append_getElem h, List.countP_append]
  have e : l[m] = fAt l m := by simp [fAt, h]
  rw [e]
  simp [List.countP_cons]
set_option maxRecDepth 100000 in
set_option maxHeartbeats 4000000 in
theorem Same_yes (a b : Nat) (days : Int) (w : World) (ha : 1 ≤ a ∧ a ≤ 6) (hb : 1 ≤ b ∧ b ≤ 6) : Calls Try.prog 38 #[.int .i64 (a : Int), .int .i64 (b : Int), .int .i64 days] w (Ret (.tuple #[.int .i64 ((sameN a b (dmod a b days) : Nat) : Int), .int .i64 0]) w) := by
  have hS : ∀ w, Calls Try.prog 70 #[.int .i64 (a : Int), .int .i64 (b : Int)] w (Only (.bool true) w) := fun w => by have := isSize_any (a : Int) (b : Int) w; rwa [decide_eq_true (by unfold SzP; omega)] at this
  have hP := Lib.hid (fun w => pastures_any a b w ha.1 hb.1 ha.2 hb.2)
  have hA := Lib.hid (fun f (h : f ∈ brs a b) w => after_any a b f days w (brs_S ha hb h))
  have hlen : (brs a b).length ≤ 262144 := brs_lt (by omega) (by omega)
  have hcs := Lib.hid (fun m (h : m < (brs a b).length) => count_succ (smB a b (dmod a b days)) h)
  have hfin : Hid (((brs a b).take (brs a b).length).countP (smB a b (dmod a b days)) = sameN a b (dmod a b days)) := Lib.hid (by rw [List.take_length]; rfl)
  obtain ⟨n, hn⟩ : ∃ n, Hid (sameN a b (dmod a b days) = n) := ⟨_, Lib.hid rfl⟩
  rw [hn.out] at hfin ⊢
  obtain ⟨d, hd⟩ : ∃ d, Hid (dmod a b days = d) := ⟨_, Lib.hid rfl⟩
  rw [hd.out] at hfin hcs hA
  have hle : ∀ m, Hid (((brs a b).take m).countP (smB a b d) ≤ m) := fun m => Lib.hid (Nat.le_trans List.countP_le_length (by rw [List.length_take]; omega))
  replace hle := Lib.hid hle
  obtain ⟨cn, hcn⟩ : ∃ cn : Nat → Nat, Hid (∀ m, ((brs a b).take m).countP (smB a b d) = cn m) := ⟨_, Lib.hid fun _ => rfl⟩
  replace hcs : Hid (∀ m, m < (brs a b).length → cn (m + 1) = cn m + if smB a b d (fAt (brs a b) m) then 1 else 0) := Lib.hid (fun m h => by rw [← hcn.out, ← hcn.out]; exact hcs.out m h)
  replace hfin : Hid (cn (brs a b).length = n) := Lib.hid (by rw [← hcn.out]; exact hfin.out)
  replace hle : Hid (∀ m, cn m ≤ m) := Lib.hid (fun m => by rw [← hcn.out]; exact (hle.out m).out)
  have hc0 : Hid (cn 0 = 0) := Lib.hid (by have := hle.out 0; omega)
  obtain ⟨L, hL⟩ : ∃ L, Hid (brs a b = L) := ⟨_, Lib.hid rfl⟩
  rw [hL.out] at hfin hcs hlen hA hP
  clear ha hb
  go_enter Try.func38, Try.ntmps38
  go_wp2_with (first | (go_at_call 70; refine (hS _).mono ?_; rintro _ _ ⟨rfl, rfl⟩) | (go_at_call 72; (with_reducible refine (hP.out _).mono ?_); rintro _ w1 ⟨ad, c, rfl, hc, hH, hw1⟩))
  obtain ⟨N, hN⟩ : ∃ N, Hid (L.length = N) := ⟨_, Lib.hid rfl⟩
  rw [hN.out] at hH hc hlen hfin ⊢
  replace hH := Lib.hid hH
  go_loopw [8, 10, 19] (fun v _ j wr => ∃ m : Nat, m ≤ N ∧ v = .int .i64 (cn m : Nat) ∧ j = .int .i64 m ∧ Below w1.heap.size w1 wr) (fun _ _ j _ => N - (intOf j).toNat)
  case atStart => exact ⟨0, by omega, by rw [hc0.out]; rfl, rfl, Below.refl _ _⟩
  case round =>
    obtain ⟨m, hm, rfl, rfl, B⟩ := hrel
    by_cases hlm : m < N
    · have hlm' : (m : Int) < (N : Int) := by omega
      have hml : m < L.length := by rw [hN.out]; exact hlm
      obtain ⟨g, rfl, hg1, hgb⟩ := hH.out (by omega)
      have hgb2 : PBlk wr g a b L := hgb.ext B
      obtain ⟨c0, c1, c2, c3, c4, c5, c6, c7⟩ := hgb2.pc (i := m) hml
      have hcs' := hcs.out m hml
      have hA' := Lib.hid (fun w => hA.out _ (fAt_mem hml) w)
      have hle' := hle.out m
      generalize fAt L m = f at *
      have kD := Lib.hid (Blk.new wr 66 (pC a b f))
      have hBa := Lib.hid (B.trans ((b1 wr (.cells (pC a b f) 66)).mono B.size))
      clear hgb hgb2 hml
      go_upto_region 7 with (fail)
      clear c0 c1 c2 c3 c4 c5 c6 c7
      generalize wr.alloc (.cells (pC a b f) 66) = W at *
      generalize wr.heap.size = D at *
      obtain ⟨e0, e1, e2, e3, e4, e5, e6, e7⟩ := kD.out.pc
      replace e0 := cellX e0
      replace e1 := cellX e1
      replace e2 := cellX e2
      replace e3 := cellX e3
      replace e4 := cellX e4
      replace e5 := cellX e5
      replace e6 := cellX e6
      replace e7 := cellX e7
      have hsB := hBa.out.size
      by_cases hs : smB a b d f = true
      · rw [if_pos hs] at hcs'
        have hq : decide (EqG a b (dayI a b f d) f) = true := hs
        replace hcs' := Lib.hid hcs'
        clear hs
        generalize dayI a b f d = f' at *
        refine wp_region_ext (by kernel_rfl) (by kernel_rfl) ?_
        repeat (go_big_quiet_step (first | (go_at_call 53; with_reducible exact callE (hA'.out _))))
        refine wpQuiet_nil ?_
        rintro ⟨w2, hw2⟩
        dsimp only
        have hB2 := Lib.hid (hBa.out.trans (hw2.mono hsB))
        clear e0 e1 e2 e3 e4 e5 e6 e7
        go_wp2
        go_roundw
        case rel => exact ⟨m + 1, by omega, congrArg (Value.int .i64) (by have := hcs'.out; omega), by go_num, hB2.out⟩
        case measure => simp [intOf]; omega
      · rw [if_neg hs] at hcs'
        have hq : decide (EqG a b (dayI a b f d) f) = false := by simpa [smB] using hs
        replace hcs' := Lib.hid hcs'
        clear hs
        generalize dayI a b f d = f' at *
        refine wp_region_ext (by kernel_rfl) (by kernel_rfl) ?_
        repeat (go_big_quiet_step (first | (go_at_call 53; with_reducible exact callE (hA'.out _))))
        refine wpQuiet_nil ?_
        rintro ⟨w2, hw2⟩
        dsimp only
        have hB2 := Lib.hid (hBa.out.trans (hw2.mono hsB))
        clear e0 e1 e2 e3 e4 e5 e6 e7
        go_wp2
        go_roundw
        case rel => exact ⟨m + 1, by omega, congrArg (Value.int .i64) (by have := hcs'.out; omega), by go_num, hB2.out⟩
        case measure => simp [intOf]; omega
    · obtain rfl : m = N := by omega
      have hf := hfin.out
      rw [hf]
      go_wp2
      go_ret2
      exact Ret.mk rfl (nextB hw1 B)
theorem Same_no (a b days : Int) (w : World) (h : ¬ SzP a b) : Calls Try.prog 38 #[.int .i64 a, .int .i64 b, .int .i64 days] w (Only (.tuple #[.int .i64 0, .int .i64 2]) w) := by
  have hS : ∀ w, Calls Try.prog 70 #[.int .i64 a, .int .i64 b] w (Only (.bool false) w) := fun w => by have := isSize_any a b w; rwa [decide_eq_false h] at this
  clear h
  go_enter Try.func38, Try.ntmps38
  go_wp2_with (go_at_call 70; refine (hS _).mono ?_; rintro _ _ ⟨rfl, rfl⟩)
  go_ret2
  exact Only.mk rfl
end Go.Proofs.Ytniknldeafmgaaa
