/- PensEhrhart: the numbers of Grown, and where the grown pen is a pen, what Count tells of it: the walk. -/
import Derived.Test.YtnjegnlfdbbleaaPd
namespace Go.Proofs.Ytnjegnlfdbbleaa
open Go Go.RowKit Go.Shelf

theorem PenP.bds {n : Nat} {p : Nat → Int × Int} (h : PenP n p) : 0 ≤ areaI n p ∧ areaI n p ≤ 50000 ∧ 0 ≤ borderI n p ∧ borderI n p ≤ 1000 := by
  obtain ⟨q1, q2⟩ := signedI_bd h.2.1 h.sm
  obtain ⟨q3, q4⟩ := borderI_bd h.2.1 h.sm
  unfold areaI
  omega

set_option maxRecDepth 100000 in
set_option maxHeartbeats 4000000 in
theorem ehr_yes (a : Option Addr) (n c : Nat) (p : Nat → Int × Int) (t : Int) (w : World) (h : Pts w a n p) (hp : PenP n p) (t0 : 0 ≤ t) (t1 : t ≤ 65535) :
    Calls Try.prog 8 #[.slice a n c, .int .u16 t] w (Ret (.bool true) w) := by
  have hn : n ≤ 60 := by have := hp.2.1; omega
  have hm : n ≤ 4611686018427387904 := by omega
  have HF := fun w => few_any a n c w
  simp only [decide_eq_true hn] at HF
  replace HF := Lib.hid HF
  have HI := fun w1 (hb : Below w.heap.size w w1) => isPen_any a n c p w1 hm (h.next hb)
  simp only [decide_eq_true hp] at HI
  replace HI := Lib.hid HI
  have hT0 : 1 ≤ 1 + t % 1000 := by omega
  have hT1 : 1 + t % 1000 ≤ 1000 := by omega
  have hpar := area_par n p
  obtain ⟨E1, E2⟩ := grown_fit hpar (1 + t % 1000)
  have E3 := grown_one hpar
  have H1 := Lib.hid (fun w1 (hb : Below w.heap.size w w1) => Area_yes a n c p w1 hm (h.next hb) hp)
  have H2 := Lib.hid (fun w1 (hb : Below w.heap.size w w1) => Count_yes a n c p w1 hm (h.next hb) hp)
  have H3 := Lib.hid (fun w1 (hb : Below w.heap.size w w1) => Grown_yes a n c p (1 + t % 1000) w1 hm (h.next hb) hp hT0 hT1)
  have H4 := Lib.hid (fun w1 (hb : Below w.heap.size w w1) => Grown_yes a n c p 1 w1 hm (h.next hb) hp (by omega) (by omega))
  have K1 := (grown_count (t := 1 + t % 1000) hpar)
  rw [← area_sc (by omega), ← border_sc (by omega)] at K1
  have K2 := border_sc (t := 1 + t % 1000) (by omega) n p
  have HB := PenP.bds hp
  obtain ⟨i0, hi, hz0, hz1, hz2⟩ := info_parts infoPt
  have I0 := Lib.hid hi
  have I1 := Lib.hid hz0
  have I2 := Lib.hid hz1
  have I3 := Lib.hid hz2
  clear hi hz0 hz1 hz2
  have h3 : 3 ≤ n := hp.1
  have h10 : n ≤ 10 := hp.2.1
  have hs := Lib.hid hp.sm
  replace h := Lib.hid h
  obtain ⟨b, off, rfl, hc⟩ := ptsOf h.out (by omega)
  replace hc := Lib.hid hc
  clear hp
  go_enter Try.func8, Try.ntmps8
  go_wp2_with fail
  refine (HF.out _).mono ?_
  rintro e w1 ⟨rfl, hb1⟩
  dsimp only
  go_wp2_with fail
  refine (HI.out _ hb1).mono ?_
  rintro e w2 ⟨rfl, hb2⟩
  dsimp only
  replace hb1 := nextB hb1 hb2
  clear hb2 HF HI
  go_wp2_with fail
  obtain ⟨HB0, HB1, HB2, HB3⟩ := HB
  replace K1 := Lib.hid K1
  replace K2 := Lib.hid K2
  generalize 1 + t % 1000 = T at *
  have hI := grown_fit hpar 1
  clear hpar t0 t1
  generalize hA : areaI n p = A at *
  generalize hB : borderI n p = B at *
  obtain ⟨m1, m2⟩ := mul_bd (x := A) (y := T) (X := 50000) (Y := 1000) (by omega) (by omega) (by omega) (by omega)
  obtain ⟨m3, m4⟩ := mul_bd (x := A * T) (y := T) (X := 50000000) (Y := 1000) (by omega) (by omega) (by omega) (by omega)
  obtain ⟨m5, m6⟩ := mul_bd (x := B) (y := T) (X := 1000) (Y := 1000) (by omega) (by omega) (by omega) (by omega)
  generalize grownI A B T = G1 at *
  generalize grownI A B (-T) = G2 at *
  generalize grownI A B 1 = G3 at *
  generalize grownI A B (-1) = G4 at *
  have v1 : -100000000000 ≤ G1 := by omega
  have v2 : G1 ≤ 100000000000 := by omega
  have v3 : -100000000000 ≤ G2 := by omega
  have v4 : G2 ≤ 100000000000 := by omega
  have v5 : -100000000000 ≤ G4 := by omega
  have v6 : G4 ≤ 100000000000 := by omega
  have z1 : (2 * G1 != A * T * T + B * T + 2) = false := by rw [bne_eq_false_iff_eq]; exact E1
  have z2 : (2 * G2 != A * T * T - B * T + 2) = false := by rw [bne_eq_false_iff_eq]; exact E2
  have z3 : (G3 != B + G4) = false := by rw [bne_eq_false_iff_eq]; exact E3
  clear E1 E2 E3 hI hA hB
  go_wp2_with (first
    | (go_at_call 16; refine (H1.out _ hb1).mono ?_; rintro e w2 ⟨rfl, hb2⟩; replace hb1 := nextB hb1 hb2; clear hb2)
    | (go_at_call 21; refine (H2.out _ hb1).mono ?_; rintro e w2 ⟨rfl, hb2⟩; replace hb1 := nextB hb1 hb2; clear hb2)
    | (go_at_call 25; ((with_reducible refine (H3.out _ hb1).mono ?_); rintro e w2 ⟨rfl, hb2⟩; replace hb1 := nextB hb1 hb2; clear hb2))
    | (go_at_call 25; ((with_reducible refine (H4.out _ hb1).mono ?_); rintro e w2 ⟨rfl, hb2⟩; replace hb1 := nextB hb1 hb2; clear hb2)))
  go_loopw [17, 18] (fun v i wr => ∃ k : Nat, k ≤ n ∧ i = .int .i64 k ∧ wr.ownsRow w.heap.size 32 2 v k (cellsOf (scP T p) k) ∧ Below w.heap.size w wr) (fun _ i _ => n - (intOf i).toNat)
  case atStart => exact ⟨0, by omega, rfl, World.ownsRow_nil _ _ _ _, hb1⟩
  case round =>
    clear hb1
    obtain ⟨k, hk, rfl, hown, B0⟩ := hrel
    by_cases hlt : k < n
    · have hi0 : (0 : Int) ≤ (k : Int) := by omega
      have hi1 : (k : Int) < (n : Int) := by omega
      obtain ⟨e0, e1⟩ := hc.out k hlt
      have x0 := cellX (cellB B0 e0)
      have x1 := cellX (cellB B0 e1)
      clear e0 e1
      have S := hs.out k hlt
      unfold Sm at S
      obtain ⟨r1, r2⟩ := mul_bd (x := T) (y := (p k).1) (X := 1000) (Y := 50) (by omega) (by omega) (by omega) (by omega)
      obtain ⟨r3, r4⟩ := mul_bd (x := T) (y := (p k).2) (X := 1000) (Y := 50) (by omega) (by omega) (by omega) (by omega)
      go_wp2
      refine wp_region_take_tail 16 u17 (by kernel_rfl) (by kernel_rfl) (fun _ _ _ h => h) (.inl ⟨by rfl, fun w => by go_simp⟩) ?_
      simp only [Act.put, List.setIfInBounds_toArray, List.set_cons_zero, List.set_cons_succ]
      dsimp only [List.take, List.drop, Nat.reduceSub]
      repeat (go_big_quiet_step (fail))
      refine wpQuiet_nil ?_
      intro y
      have B5 := nextB B0 y.ok
      replace hown := owns_next hown y.ok
      clear x0 x1 S r1 r2 r3 r4 B0
      go_wp2_with (at_builtin; refine wpList_append_own _ rfl _ _ 22 rfl w.heap.size 32 i0 (.agg #[.int .i64 0, .int .i64 0]) 2 16 Try.underlying22 I0.out I1.out I2.out I3.out rfl (by decide) _ _ _ rfl (hown.alloc _) ⟨y.world.heap.size, 0, none⟩ 1 1 [.int .i64 (T * (p k).1), .int .i64 (T * (p k).2)] rfl rfl (cell_two_new _ _ _ _) (by simp [Value.oneCell']) (by unfold maxLen; omega) (by omega) (by have := B5.size; simp; omega) ?_; intro v' w5 hown5 hgrow _; have hv5 := hown5)
      go_roundw
      case rel => exact ⟨k + 1, by omega, by go_num, by rw [cellsOf_succ]; exact hown5, (B5.alloc B5.size _).grown hgrow (by have := B5.size; simp; omega) (fun g h => (hown.lt g h).1)⟩
      case measure => simp [intOf]; omega
    · obtain rfl : k = n := by omega
      obtain ⟨g, cap, rfl⟩ : ∃ g cap, u17 = .slice (some ⟨g, 0, none⟩) k cap := by
        obtain ⟨m, hm⟩ : ∃ m, k = m + 1 := ⟨k - 1, by omega⟩
        have h := hown
        rw [hm] at h ⊢
        exact ownsRow_succ h
      have hP : Pts wr (some ⟨g, 0, none⟩) k (scP T p) := .inr ⟨g, 0, rfl, fun i hi => owns_pts hown i hi⟩
      clear hown
      have L0 := isPen_any (some ⟨g, 0, none⟩) k cap (scP T p) wr hm hP
      by_cases hq : PenP k (scP T p)
      · have L1 : Hid (∀ w1, Below wr.heap.size wr w1 → _) := Lib.hid (fun w1 (hb : Below wr.heap.size wr w1) => Count_yes (some ⟨g, 0, none⟩) k cap (scP T p) w1 hm (hP.next hb) hq)
        rw [decide_eq_true hq] at L0
        replace L0 := Lib.hid L0
        have K1' := K1.out
        have K2' := K2.out
        have z4 : (borderI k (scP T p) == B * T) = true := by rw [beq_iff_eq]; exact K2'
        have z5 : (grownI (areaI k (scP T p)) (borderI k (scP T p)) (-1) == G2) = true := by rw [beq_iff_eq]; exact K1'.1
        have z6 : (borderI k (scP T p) + grownI (areaI k (scP T p)) (borderI k (scP T p)) (-1) == G1) = true := by rw [beq_iff_eq]; exact K1'.2
        have z7 : -100000000000 ≤ borderI k (scP T p) := by omega
        have z8 : borderI k (scP T p) ≤ 100000000000 := by omega
        have z9 : -100000000000 ≤ grownI (areaI k (scP T p)) (borderI k (scP T p)) (-1) := by omega
        have z10 : grownI (areaI k (scP T p)) (borderI k (scP T p)) (-1) ≤ 100000000000 := by omega
        clear K1' K2' K1 K2 hP hq
        generalize grownI (areaI k (scP T p)) (borderI k (scP T p)) (-1) = D at *
        generalize borderI k (scP T p) = C at *
        go_wp2_with (first
          | (go_at_call 15; refine L0.out.mono ?_; rintro e w2 ⟨rfl, hb2⟩)
          | (go_at_call 21; refine (L1.out _ hb2).mono ?_; rintro e w3 ⟨rfl, hb3⟩; replace hb2 := nextB hb2 hb3; clear hb3)
          | (go_at_call 13; refine (alive_any _).mono ?_; rintro e w3 ⟨rfl, hb3⟩; replace hb2 := nextB hb2 hb3; clear hb3))
        go_ret
        exact Ret.mk rfl (nextB B0 hb2)
      · rw [decide_eq_false hq] at L0
        replace L0 := Lib.hid L0
        clear K1 K2 hP hq
        go_wp2_with (first
          | (go_at_call 15; refine L0.out.mono ?_; rintro e w2 ⟨rfl, hb2⟩)
          | (go_at_call 13; refine (alive_any _).mono ?_; rintro e w3 ⟨rfl, hb3⟩; replace hb2 := nextB hb2 hb3; clear hb3))
        go_ret
        exact Ret.mk rfl (nextB B0 hb2)

set_option maxRecDepth 100000 in
set_option maxHeartbeats 1600000 in
theorem ehr_any (a : Option Addr) (n c : Nat) (p : Nat → Int × Int) (t : Int) (w : World) (h : Pts w a n p) (t0 : 0 ≤ t) (t1 : t ≤ 65535) :
    Calls Try.prog 8 #[.slice a n c, .int .u16 t] w (Ret (.bool true) w) := by
  by_cases hp : PenP n p
  · exact ehr_yes a n c p t w h hp t0 t1
  · have HF := fun w => few_any a n c w
    by_cases hn : n ≤ 60
    · have hm : n ≤ 4611686018427387904 := by omega
      have HI := fun w1 (hb : Below w.heap.size w w1) => isPen_any a n c p w1 hm (h.next hb)
      simp only [decide_eq_false hp] at HI
      simp only [decide_eq_true hn] at HF
      replace HF := Lib.hid HF
      replace HI := Lib.hid HI
      clear h hp
      go_enter Try.func8, Try.ntmps8
      go_wp2_with (first
        | (go_at_call 12; refine (HF.out _).mono ?_; rintro e w1 ⟨rfl, hb1⟩)
        | (go_at_call 15; refine (HI.out _ hb1).mono ?_; rintro e w2 ⟨rfl, hb2⟩; replace hb1 := nextB hb1 hb2; clear hb2)
        | (go_at_call 13; refine (alive_any _).mono ?_; rintro e w2 ⟨rfl, hb2⟩; replace hb1 := nextB hb1 hb2; clear hb2))
      go_ret
      exact Ret.mk rfl hb1
    · simp only [decide_eq_false hn] at HF
      replace HF := Lib.hid HF
      clear h hp
      go_enter Try.func8, Try.ntmps8
      go_wp2_with (first
        | (go_at_call 12; refine (HF.out _).mono ?_; rintro e w1 ⟨rfl, hb1⟩)
        | (go_at_call 13; refine (alive_any _).mono ?_; rintro e w2 ⟨rfl, hb2⟩; replace hb1 := nextB hb1 hb2; clear hb2))
      go_ret
      exact Ret.mk rfl hb1
end Go.Proofs.Ytnjegnlfdbbleaa
