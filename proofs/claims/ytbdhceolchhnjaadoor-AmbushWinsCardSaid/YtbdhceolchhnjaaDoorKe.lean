/- Layer 4, by the specification: Move. -/
import Derived.Test.YtbdhceolchhnjaaDoorKd
namespace Go.Proofs.YtbdhceolchhnjaaDoor
open Go Go.RowKit

set_option maxRecDepth 100000 in
set_option maxHeartbeats 8000000 in
theorem refMove0_any (m : Nat) (a : Option Addr) (n c : Nat) (R : List Int) (s t : ByteArray) (w : World) (h : Ints w a R) (hn : R.length = n) (he : pE (m : Int) R s = 0) (hF : FieldP m R) (hside : isSide t = true) (hsn : sideN t = 0) :
    Calls Tryd.prog 15 #[.int .i64 (m : Nat), .slice a n c, .string s, .string t] w (Ret (.tuple #[.int .i64 (mvI (m : Int) R s t : Nat), .int .i64 (mvE (m : Int) R s t : Nat)]) w) := by
  have PL := Lib.hid (refPlaced_any (m : Int) a n c R s w h hn)
  have TU := Lib.hid (fun W => refTurn_any t W)
  rw [he] at PL
  rw [hside, hsn] at TU
  simp only [if_true, Int.toNat_natCast] at PL TU
  have hte : tE (m : Int) R s t = 0 := by unfold tE; rw [if_pos he, if_pos hside]
  have hm9 := hF.le
  have n12 : n ≤ 12 := by have := hF.few; omega
  obtain ⟨r, hr⟩ : ∃ r, mvI (m : Int) R s t = r := ⟨_, rfl⟩
  obtain ⟨q, hq⟩ : ∃ q, mvE (m : Int) R s t = q := ⟨_, rfl⟩
  rw [hr, hq]
  unfold mvI at hr
  rw [hq] at hr
  unfold mvE at hq
  rw [hte, if_pos rfl] at hq
  rw [Int.toNat_natCast] at hr hq
  rw [hsn] at hr
  have hp := psB_pos s m
  obtain ⟨hu9, hv9⟩ := hp.lt hm9
  have NG := Lib.hid (fun W => refNew_any m a n c hm9 W)
  have WN := Lib.hid (fun G K i (hi : i ∈ frL m (psB s 119 m) (psB s 100 m)) W (hst : StR m a n c R G K w W) => (show Calls Tryd.prog 46 #[.pointer (some ⟨G, 0, none⟩), .int .i64 (((psB s 119 m : Nat) : Int) + ((pw i : Nat) : Int)), .int .i64 ((psB s 100 m : Nat) : Int), .int .i64 1] W (WoR m R K (.bool (win m R (psB s 119 m + pw i) (psB s 100 m) true)) W) from by
    have := wolves_any m a n c R G K w hF hn _ (psB s 119 m + pw i) (psB s 100 m) 1 W rfl hst (hp.takeW hi) (by omega)
    rw [Int.natCast_add] at this
    exact this))
  have MK := Lib.hid (fun G K w1 w2 hb h1 h2 hne hG hK hb2 => StR.made (m := m) (a := a) (n := n) (c := c) (R := R) (G := G) (K := K) (w := w) (w1 := w1) (w2 := w2) h hb h1 h2 hne hG hK hb2)
  have HAS := Lib.hid (fun W (hW : Below w.heap.size w W) => refHas_any a n c R (psB s 119 m) W (h.next hW) hn (by omega) (by omega) hF.sets)
  have WQ := Lib.hid (fun i (hi : i ∈ frL m (psB s 119 m) (psB s 100 m)) => wB_zeroF (R := R) hi)
  have FO := full_or hp
  have o1 := i64_or_nat (psB s 119 m) (psB s 100 m) (by omega) (by omega)
  have hor : (psB s 119 m ||| psB s 100 m) < 512 := Nat.or_lt_two_pow (n := 9) hu9 hv9
  have ob := Lib.hid (fun k (hk : k < m) => or_bit (x := psB s 119 m) (y := psB s 100 m) hk)
  have sb := Lib.hid (fun k => bt_int (psB s 119 m ||| psB s 100 m) k)
  have sh := wrap_shl (k := m) (by omega)
  have hmin : min m 64 = m := by omega
  have hpl : pw m ≤ 512 := by have := pw_mono hm9; have h4 : pw 9 = 512 := rfl; omega
  have hpp := pw_pos m
  have hpl2 := Lib.hid (fun k (hk : k < m) => (show pw k ≤ 512 from Nat.le_trans (pw_mono (by omega)) hpl))
  have MS := Lib.hid (fun i (hi : i ∈ frL m (psB s 119 m) (psB s 100 m)) (hq : wB m R (psB s 119 m) (psB s 100 m) 0 i = true) hno => mv_some hi hq hno)
  have MN := Lib.hid (fun i (hi : i ∈ frL m (psB s 119 m) (psB s 100 m)) hlo (hno : ∀ j, j < m → j ∈ frL m (psB s 119 m) (psB s 100 m) → wB m R (psB s 119 m) (psB s 100 m) 0 j = false) => mv_none hi hlo hno)
  have hne0 := fun (h0 : frL m (psB s 119 m) (psB s 100 m) ≠ []) => List.exists_mem_of_ne_nil _ h0
  generalize psB s 119 m = u at *
  generalize psB s 100 m = v at *
  clear h he hte hside hsn hF hp
  obtain ⟨q3, hq3⟩ : ∃ q3, Hid (wB m R u v 0 = q3) := ⟨_, Lib.hid rfl⟩
  rw [hq3.out] at hr MS MN
  have WQ2 : Hid (∀ i, i ∈ frL m u v → q3 i = win m R (u + pw i) v true) := Lib.hid (fun i hi => by rw [← hq3.out]; exact WQ.out i hi)
  clear WQ hq3
  cases hh : hasOne R u
  · rw [hh] at HAS
    by_cases hfr : frL m u v = []
    · rw [if_pos (.inl hfr)] at hq
      subst hq
      rw [if_neg (by omega)] at hr
      subst hr
      have ho : ((((u ||| v : Nat) : Int)) == ((pw m : Nat) : Int) - 1) = true := by rw [beq_iff_eq, FO.2 hfr]; omega
      clear FO hfr hne0 ob sb MS MN WQ2 NG WN MK hpl2
      generalize u ||| v = o at *
      generalize pw m = pm at *
      go_enter Tryd.func15, Tryd.ntmps15
      go_wp2_with (first
        | (go_at_call 30; refine PL.out.mono ?_; rintro e w1 ⟨rfl, hb1⟩)
        | (go_at_call 44; refine (TU.out _).mono ?_; rintro e w2 ⟨rfl, rfl⟩)
        | (go_at_call 50; refine (HAS.out _ hb1).mono ?_; rintro e w3 ⟨rfl, rfl⟩))
      go_ret2
      exact Ret.mk rfl hb1
    · rw [if_neg (by rintro (h | h); exact hfr h; rw [hh] at h; cases h)] at hq
      subst hq
      rw [if_pos rfl] at hr
      have ho : ((((u ||| v : Nat) : Int)) == ((pw m : Nat) : Int) - 1) = false := by
        rw [beq_eq_false_iff_ne]
        intro h
        exact hfr (FO.1 (by omega))
      have hex := Lib.hid (hne0 hfr)
      replace hr := Lib.hid hr
      clear FO hfr hne0
      generalize u ||| v = o at *
      generalize pw m = pm at *
      go_enter Tryd.func15, Tryd.ntmps15
      go_wp2_with (first
        | (go_at_call 30; refine PL.out.mono ?_; rintro e w1 ⟨rfl, hb1⟩)
        | (go_at_call 44; refine (TU.out _).mono ?_; rintro e w2 ⟨rfl, rfl⟩)
        | (go_at_call 50; refine (HAS.out _ hb1).mono ?_; rintro e w3 ⟨rfl, rfl⟩)
        | (go_at_call 45; refine (NG.out _).mono ?_; rintro e w3 ⟨G, K, rfl, hG, hK, hne, hbG, hbK, hb3⟩; have hst := Lib.hid (MK.out G K _ _ hb1 hG hK hne hbG hbK hb3)))
      clear hbG hbK hb3 hb1 PL TU NG MK HAS ho
      go_loopw [15, 16] (fun f i wr => ∃ k : Nat, k ≤ m ∧ i = .int .i64 k ∧ StR m a n c R G K w wr ∧ (∀ j, j < k → j ∈ frL m u v → q3 j = false) ∧ ((f = .int .i64 (-1) ∧ ∀ j, j < k → j ∉ frL m u v) ∨ ∃ i0 : Nat, f = .int .i64 (i0 : Nat) ∧ i0 < k ∧ i0 ∈ frL m u v ∧ ∀ j, j < i0 → j ∉ frL m u v)) (fun _ i _ => m - (intOf i).toNat)
      case atStart => exact ⟨0, by omega, rfl, hst.out, fun j hj => by omega, .inl ⟨rfl, fun j hj => by omega⟩⟩
      case round =>
        clear hst hG hK hne
        obtain ⟨k, hk, rfl, hS, hall, hfst⟩ := hrel
        replace hall := Lib.hid hall
        replace hS := Lib.hid hS
        by_cases hlk : k < m
        · have hki : (k : Int) < (m : Int) := by omega
          have hsb := sb.out k
          rw [ob.out k hlk] at hsb
          by_cases hfk : k ∈ frL m u v
          · rw [if_pos hfk] at hsb
            have hbt : (((o : Int) / 2 ^ k).tmod 2 == 1) = false := by rw [hsb]; rfl
            have shk := wrap_shl (k := k) (by omega)
            have hmk : min k 64 = k := by omega
            have hpk := hpl2.out k hlk
            have IHk := Lib.hid (WN.out G K k hfk wr hS.out)
            have hqk := WQ2.out k hfk
            generalize win m R (u + pw k) v true = b at *
            clear hsb
            have hfk' := Lib.hid hfk
            clear hfk
            generalize hpkk : pw k = pk at *
            replace hpkk := Lib.hid hpkk
            rcases hfst with ⟨rfl, hnf⟩ | ⟨i0, rfl, hi0, hif, hnf⟩
            · replace hnf := Lib.hid hnf
              cases b
              · replace hqk := Lib.hid hqk
                go_wp2_with (go_at_call 46; refine IHk.out.mono ?_; rintro e w4 ⟨rfl, hK4, hN4⟩)
                go_roundw
                case rel => exact ⟨k + 1, by omega, by go_num, hS.out.step hK4 hN4, fun j hj hm2 => (by
                  by_cases hjk : j = k
                  · subst hjk; exact hqk.out
                  · exact hall.out j (by omega) hm2), .inr ⟨k, rfl, by omega, hfk'.out, hnf.out⟩⟩
                case measure => simp [intOf]; omega
              · replace hqk := Lib.hid hqk
                go_wp2_with (go_at_call 46; refine IHk.out.mono ?_; rintro e w4 ⟨rfl, hK4, hN4⟩)
                have hmv := Lib.hid (MS.out k hfk'.out hqk.out (fun j hj h2 => hall.out j hj h2))
                rw [hmv.out] at hr
                go_ret2
                exact Ret.mk (by rw [← hr.out]; rfl) (hS.out.step hK4 hN4).below
            · replace hnf := Lib.hid hnf
              replace hif := Lib.hid hif
              have hge : ¬ ((i0 : Int) < 0) := by omega
              cases b
              · replace hqk := Lib.hid hqk
                go_wp2_with (go_at_call 46; refine IHk.out.mono ?_; rintro e w4 ⟨rfl, hK4, hN4⟩)
                go_roundw
                case rel => exact ⟨k + 1, by omega, by go_num, hS.out.step hK4 hN4, fun j hj hm2 => (by
                  by_cases hjk : j = k
                  · subst hjk; exact hqk.out
                  · exact hall.out j (by omega) hm2), .inr ⟨i0, rfl, by omega, hif.out, hnf.out⟩⟩
                case measure => simp [intOf]; omega
              · replace hqk := Lib.hid hqk
                go_wp2_with (go_at_call 46; refine IHk.out.mono ?_; rintro e w4 ⟨rfl, hK4, hN4⟩)
                have hmv := Lib.hid (MS.out k hfk'.out hqk.out (fun j hj h2 => hall.out j hj h2))
                rw [hmv.out] at hr
                go_ret2
                exact Ret.mk (by rw [← hr.out]; rfl) (hS.out.step hK4 hN4).below
          · rw [if_neg hfk] at hsb
            have hbt : (((o : Int) / 2 ^ k).tmod 2 == 1) = true := by rw [hsb]; rfl
            have hfk' := Lib.hid hfk
            replace hfst := Lib.hid hfst
            clear hsb hfk
            go_wp2
            go_roundw
            case rel => exact ⟨k + 1, by omega, by go_num, hS.out, fun j hj hm2 => (by
              by_cases hjk : j = k
              · subst hjk; exact absurd hm2 hfk'.out
              · exact hall.out j (by omega) hm2), (by
              rcases hfst.out with ⟨e1, h2⟩ | ⟨i0, e1, h2, h3, h4⟩
              · exact .inl ⟨e1, fun j hj hm2 => (by
                  by_cases hjk : j = k
                  · subst hjk; exact absurd hm2 hfk'.out
                  · exact h2 j (by omega) hm2)⟩
              · exact .inr ⟨i0, e1, by omega, h3, h4⟩)⟩
            case measure => simp [intOf]; omega
        · have hkm : k = m := by omega
          have hki : ¬ ((k : Int) < (m : Int)) := by omega
          rcases hfst with ⟨rfl, hnf⟩ | ⟨i0, rfl, hi0, hif, hnf⟩
          · obtain ⟨i, hi⟩ := hex.out
            exact absurd hi (hnf i (by rw [hkm]; exact (frL_mem.1 hi).1))
          · have hmv := Lib.hid (MN.out i0 hif hnf (fun j hj h2 => hall.out j (by omega) h2))
            rw [hmv.out] at hr
            go_wp2
            go_ret2
            exact Ret.mk (by rw [← hr.out]; rfl) hS.out.below
  · rw [hh] at HAS
    rw [if_pos (.inr hh)] at hq
    subst hq
    rw [if_neg (by omega)] at hr
    subst hr
    clear FO hne0 ob sb MS MN WQ2 NG WN MK hpl2
    generalize u ||| v = o at *
    generalize pw m = pm at *
    go_enter Tryd.func15, Tryd.ntmps15
    go_wp2_with (first
      | (go_at_call 30; refine PL.out.mono ?_; rintro e w1 ⟨rfl, hb1⟩)
      | (go_at_call 44; refine (TU.out _).mono ?_; rintro e w2 ⟨rfl, rfl⟩)
      | (go_at_call 50; refine (HAS.out _ hb1).mono ?_; rintro e w3 ⟨rfl, rfl⟩))
    go_ret2
    exact Ret.mk rfl hb1
set_option maxRecDepth 100000 in
set_option maxHeartbeats 8000000 in
theorem refMove1_any (m : Nat) (a : Option Addr) (n c : Nat) (R : List Int) (s t : ByteArray) (w : World) (h : Ints w a R) (hn : R.length = n) (he : pE (m : Int) R s = 0) (hF : FieldP m R) (hside : isSide t = true) (hsn : sideN t = 1) :
    Calls Tryd.prog 15 #[.int .i64 (m : Nat), .slice a n c, .string s, .string t] w (Ret (.tuple #[.int .i64 (mvI (m : Int) R s t : Nat), .int .i64 (mvE (m : Int) R s t : Nat)]) w) := by
  have PL := Lib.hid (refPlaced_any (m : Int) a n c R s w h hn)
  have TU := Lib.hid (fun W => refTurn_any t W)
  rw [he] at PL
  rw [hside, hsn] at TU
  simp only [if_true, Int.toNat_natCast] at PL TU
  have hte : tE (m : Int) R s t = 0 := by unfold tE; rw [if_pos he, if_pos hside]
  have hm9 := hF.le
  have n12 : n ≤ 12 := by have := hF.few; omega
  obtain ⟨r, hr⟩ : ∃ r, mvI (m : Int) R s t = r := ⟨_, rfl⟩
  obtain ⟨q, hq⟩ : ∃ q, mvE (m : Int) R s t = q := ⟨_, rfl⟩
  rw [hr, hq]
  unfold mvI at hr
  rw [hq] at hr
  unfold mvE at hq
  rw [hte, if_pos rfl] at hq
  rw [Int.toNat_natCast] at hr hq
  rw [hsn] at hr
  have hp := psB_pos s m
  obtain ⟨hu9, hv9⟩ := hp.lt hm9
  have NG := Lib.hid (fun W => refNew_any m a n c hm9 W)
  have WN := Lib.hid (fun G K i (hi : i ∈ frL m (psB s 119 m) (psB s 100 m)) W (hst : StR m a n c R G K w W) => (show Calls Tryd.prog 46 #[.pointer (some ⟨G, 0, none⟩), .int .i64 ((psB s 119 m : Nat) : Int), .int .i64 (((psB s 100 m : Nat) : Int) + ((pw i : Nat) : Int)), .int .i64 0] W (WoR m R K (.bool (win m R (psB s 119 m) (psB s 100 m + pw i) false)) W) from by
    have := wolves_any m a n c R G K w hF hn _ (psB s 119 m) (psB s 100 m + pw i) 0 W rfl hst (hp.takeD hi) (by omega)
    rw [Int.natCast_add] at this
    exact this))
  have MK := Lib.hid (fun G K w1 w2 hb h1 h2 hne hG hK hb2 => StR.made (m := m) (a := a) (n := n) (c := c) (R := R) (G := G) (K := K) (w := w) (w1 := w1) (w2 := w2) h hb h1 h2 hne hG hK hb2)
  have HAS := Lib.hid (fun W (hW : Below w.heap.size w W) => refHas_any a n c R (psB s 119 m) W (h.next hW) hn (by omega) (by omega) hF.sets)
  have WQ := Lib.hid (fun i (hi : i ∈ frL m (psB s 119 m) (psB s 100 m)) => wB_oneF (R := R) hi)
  have FO := full_or hp
  have o1 := i64_or_nat (psB s 119 m) (psB s 100 m) (by omega) (by omega)
  have hor : (psB s 119 m ||| psB s 100 m) < 512 := Nat.or_lt_two_pow (n := 9) hu9 hv9
  have ob := Lib.hid (fun k (hk : k < m) => or_bit (x := psB s 119 m) (y := psB s 100 m) hk)
  have sb := Lib.hid (fun k => bt_int (psB s 119 m ||| psB s 100 m) k)
  have sh := wrap_shl (k := m) (by omega)
  have hmin : min m 64 = m := by omega
  have hpl : pw m ≤ 512 := by have := pw_mono hm9; have h4 : pw 9 = 512 := rfl; omega
  have hpp := pw_pos m
  have hpl2 := Lib.hid (fun k (hk : k < m) => (show pw k ≤ 512 from Nat.le_trans (pw_mono (by omega)) hpl))
  have MS := Lib.hid (fun i (hi : i ∈ frL m (psB s 119 m) (psB s 100 m)) (hq : wB m R (psB s 119 m) (psB s 100 m) 1 i = true) hno => mv_some hi hq hno)
  have MN := Lib.hid (fun i (hi : i ∈ frL m (psB s 119 m) (psB s 100 m)) hlo (hno : ∀ j, j < m → j ∈ frL m (psB s 119 m) (psB s 100 m) → wB m R (psB s 119 m) (psB s 100 m) 1 j = false) => mv_none hi hlo hno)
  have hne0 := fun (h0 : frL m (psB s 119 m) (psB s 100 m) ≠ []) => List.exists_mem_of_ne_nil _ h0
  generalize psB s 119 m = u at *
  generalize psB s 100 m = v at *
  clear h he hte hside hsn hF hp
  obtain ⟨q3, hq3⟩ : ∃ q3, Hid (wB m R u v 1 = q3) := ⟨_, Lib.hid rfl⟩
  rw [hq3.out] at hr MS MN
  have WQ2 : Hid (∀ i, i ∈ frL m u v → q3 i = !(win m R u (v + pw i) false)) := Lib.hid (fun i hi => by rw [← hq3.out]; exact WQ.out i hi)
  clear WQ hq3
  cases hh : hasOne R u
  · rw [hh] at HAS
    by_cases hfr : frL m u v = []
    · rw [if_pos (.inl hfr)] at hq
      subst hq
      rw [if_neg (by omega)] at hr
      subst hr
      have ho : ((((u ||| v : Nat) : Int)) == ((pw m : Nat) : Int) - 1) = true := by rw [beq_iff_eq, FO.2 hfr]; omega
      clear FO hfr hne0 ob sb MS MN WQ2 NG WN MK hpl2
      generalize u ||| v = o at *
      generalize pw m = pm at *
      go_enter Tryd.func15, Tryd.ntmps15
      go_wp2_with (first
        | (go_at_call 30; refine PL.out.mono ?_; rintro e w1 ⟨rfl, hb1⟩)
        | (go_at_call 44; refine (TU.out _).mono ?_; rintro e w2 ⟨rfl, rfl⟩)
        | (go_at_call 50; refine (HAS.out _ hb1).mono ?_; rintro e w3 ⟨rfl, rfl⟩))
      go_ret2
      exact Ret.mk rfl hb1
    · rw [if_neg (by rintro (h | h); exact hfr h; rw [hh] at h; cases h)] at hq
      subst hq
      rw [if_pos rfl] at hr
      have ho : ((((u ||| v : Nat) : Int)) == ((pw m : Nat) : Int) - 1) = false := by
        rw [beq_eq_false_iff_ne]
        intro h
        exact hfr (FO.1 (by omega))
      have hex := Lib.hid (hne0 hfr)
      replace hr := Lib.hid hr
      clear FO hfr hne0
      generalize u ||| v = o at *
      generalize pw m = pm at *
      go_enter Tryd.func15, Tryd.ntmps15
      go_wp2_with (first
        | (go_at_call 30; refine PL.out.mono ?_; rintro e w1 ⟨rfl, hb1⟩)
        | (go_at_call 44; refine (TU.out _).mono ?_; rintro e w2 ⟨rfl, rfl⟩)
        | (go_at_call 50; refine (HAS.out _ hb1).mono ?_; rintro e w3 ⟨rfl, rfl⟩)
        | (go_at_call 45; refine (NG.out _).mono ?_; rintro e w3 ⟨G, K, rfl, hG, hK, hne, hbG, hbK, hb3⟩; have hst := Lib.hid (MK.out G K _ _ hb1 hG hK hne hbG hbK hb3)))
      clear hbG hbK hb3 hb1 PL TU NG MK HAS ho
      go_loopw [15, 16] (fun f i wr => ∃ k : Nat, k ≤ m ∧ i = .int .i64 k ∧ StR m a n c R G K w wr ∧ (∀ j, j < k → j ∈ frL m u v → q3 j = false) ∧ ((f = .int .i64 (-1) ∧ ∀ j, j < k → j ∉ frL m u v) ∨ ∃ i0 : Nat, f = .int .i64 (i0 : Nat) ∧ i0 < k ∧ i0 ∈ frL m u v ∧ ∀ j, j < i0 → j ∉ frL m u v)) (fun _ i _ => m - (intOf i).toNat)
      case atStart => exact ⟨0, by omega, rfl, hst.out, fun j hj => by omega, .inl ⟨rfl, fun j hj => by omega⟩⟩
      case round =>
        clear hst hG hK hne
        obtain ⟨k, hk, rfl, hS, hall, hfst⟩ := hrel
        replace hall := Lib.hid hall
        replace hS := Lib.hid hS
        by_cases hlk : k < m
        · have hki : (k : Int) < (m : Int) := by omega
          have hsb := sb.out k
          rw [ob.out k hlk] at hsb
          by_cases hfk : k ∈ frL m u v
          · rw [if_pos hfk] at hsb
            have hbt : (((o : Int) / 2 ^ k).tmod 2 == 1) = false := by rw [hsb]; rfl
            have shk := wrap_shl (k := k) (by omega)
            have hmk : min k 64 = k := by omega
            have hpk := hpl2.out k hlk
            have IHk := Lib.hid (WN.out G K k hfk wr hS.out)
            have hqk := WQ2.out k hfk
            generalize win m R u (v + pw k) false = b at *
            clear hsb
            have hfk' := Lib.hid hfk
            clear hfk
            generalize hpkk : pw k = pk at *
            replace hpkk := Lib.hid hpkk
            rcases hfst with ⟨rfl, hnf⟩ | ⟨i0, rfl, hi0, hif, hnf⟩
            · replace hnf := Lib.hid hnf
              cases b
              · replace hqk := Lib.hid hqk
                go_wp2_with (go_at_call 46; refine IHk.out.mono ?_; rintro e w4 ⟨rfl, hK4, hN4⟩)
                have hmv := Lib.hid (MS.out k hfk'.out hqk.out (fun j hj h2 => hall.out j hj h2))
                rw [hmv.out] at hr
                go_ret2
                exact Ret.mk (by rw [← hr.out]; rfl) (hS.out.step hK4 hN4).below
              · replace hqk := Lib.hid hqk
                go_wp2_with (go_at_call 46; refine IHk.out.mono ?_; rintro e w4 ⟨rfl, hK4, hN4⟩)
                go_roundw
                case rel => exact ⟨k + 1, by omega, by go_num, hS.out.step hK4 hN4, fun j hj hm2 => (by
                  by_cases hjk : j = k
                  · subst hjk; exact hqk.out
                  · exact hall.out j (by omega) hm2), .inr ⟨k, rfl, by omega, hfk'.out, hnf.out⟩⟩
                case measure => simp [intOf]; omega
            · replace hnf := Lib.hid hnf
              replace hif := Lib.hid hif
              have hge : ¬ ((i0 : Int) < 0) := by omega
              cases b
              · replace hqk := Lib.hid hqk
                go_wp2_with (go_at_call 46; refine IHk.out.mono ?_; rintro e w4 ⟨rfl, hK4, hN4⟩)
                have hmv := Lib.hid (MS.out k hfk'.out hqk.out (fun j hj h2 => hall.out j hj h2))
                rw [hmv.out] at hr
                go_ret2
                exact Ret.mk (by rw [← hr.out]; rfl) (hS.out.step hK4 hN4).below
              · replace hqk := Lib.hid hqk
                go_wp2_with (go_at_call 46; refine IHk.out.mono ?_; rintro e w4 ⟨rfl, hK4, hN4⟩)
                go_roundw
                case rel => exact ⟨k + 1, by omega, by go_num, hS.out.step hK4 hN4, fun j hj hm2 => (by
                  by_cases hjk : j = k
                  · subst hjk; exact hqk.out
                  · exact hall.out j (by omega) hm2), .inr ⟨i0, rfl, by omega, hif.out, hnf.out⟩⟩
                case measure => simp [intOf]; omega
          · rw [if_neg hfk] at hsb
            have hbt : (((o : Int) / 2 ^ k).tmod 2 == 1) = true := by rw [hsb]; rfl
            have hfk' := Lib.hid hfk
            replace hfst := Lib.hid hfst
            clear hsb hfk
            go_wp2
            go_roundw
            case rel => exact ⟨k + 1, by omega, by go_num, hS.out, fun j hj hm2 => (by
              by_cases hjk : j = k
              · subst hjk; exact absurd hm2 hfk'.out
              · exact hall.out j (by omega) hm2), (by
              rcases hfst.out with ⟨e1, h2⟩ | ⟨i0, e1, h2, h3, h4⟩
              · exact .inl ⟨e1, fun j hj hm2 => (by
                  by_cases hjk : j = k
                  · subst hjk; exact absurd hm2 hfk'.out
                  · exact h2 j (by omega) hm2)⟩
              · exact .inr ⟨i0, e1, by omega, h3, h4⟩)⟩
            case measure => simp [intOf]; omega
        · have hkm : k = m := by omega
          have hki : ¬ ((k : Int) < (m : Int)) := by omega
          rcases hfst with ⟨rfl, hnf⟩ | ⟨i0, rfl, hi0, hif, hnf⟩
          · obtain ⟨i, hi⟩ := hex.out
            exact absurd hi (hnf i (by rw [hkm]; exact (frL_mem.1 hi).1))
          · have hmv := Lib.hid (MN.out i0 hif hnf (fun j hj h2 => hall.out j (by omega) h2))
            rw [hmv.out] at hr
            go_wp2
            go_ret2
            exact Ret.mk (by rw [← hr.out]; rfl) hS.out.below
  · rw [hh] at HAS
    rw [if_pos (.inr hh)] at hq
    subst hq
    rw [if_neg (by omega)] at hr
    subst hr
    clear FO hne0 ob sb MS MN WQ2 NG WN MK hpl2
    generalize u ||| v = o at *
    generalize pw m = pm at *
    go_enter Tryd.func15, Tryd.ntmps15
    go_wp2_with (first
      | (go_at_call 30; refine PL.out.mono ?_; rintro e w1 ⟨rfl, hb1⟩)
      | (go_at_call 44; refine (TU.out _).mono ?_; rintro e w2 ⟨rfl, rfl⟩)
      | (go_at_call 50; refine (HAS.out _ hb1).mono ?_; rintro e w3 ⟨rfl, rfl⟩))
    go_ret2
    exact Ret.mk rfl hb1
theorem refMove_any (x : Int) (a : Option Addr) (n c : Nat) (R : List Int) (s t : ByteArray) (w : World) (h : Ints w a R) (hn : R.length = n) :
    Calls Tryd.prog 15 #[.int .i64 x, .slice a n c, .string s, .string t] w (Ret (.tuple #[.int .i64 (mvI x R s t : Nat), .int .i64 (mvE x R s t : Nat)]) w) := by
  by_cases hte : tE x R s t = 0
  · obtain ⟨hx, hF, hsz, hok, hside⟩ := tE_ok hte
    have hpe : pE x R s = 0 := by
      unfold tE at hte
      split at hte
      · rename_i h; exact h
      · rename_i h; exact absurd hte h
    obtain ⟨m, rfl⟩ : ∃ m : Nat, x = (m : Int) := ⟨x.toNat, hx⟩
    rw [Int.toNat_natCast] at hF
    have hsn := sideN_lt t
    obtain e | e : sideN t = 0 ∨ sideN t = 1 := by omega
    · exact refMove0_any m a n c R s t w h hn hpe hF hside e
    · exact refMove1_any m a n c R s t w h hn hpe hF hside e
  · have e1 : mvE x R s t = tE x R s t := by unfold mvE; rw [if_neg hte]
    have e2 : mvI x R s t = 0 := by unfold mvI; rw [e1, if_neg hte]
    rw [e1, e2]
    have PL := Lib.hid (refPlaced_any x a n c R s w h hn)
    have TU := Lib.hid (fun W => refTurn_any t W)
    obtain ⟨e, he⟩ : ∃ e, pE x R s = e := ⟨_, rfl⟩
    rw [he] at PL
    have he6 : e < 6 := by rw [← he]; exact pE_lt x R s
    have htd : tE x R s t = if e = 0 then (if isSide t = true then 0 else 5) else e := by unfold tE; rw [he]
    by_cases h1 : e = 0
    · subst h1
      simp only [if_true] at PL htd
      cases hside : isSide t
      · rw [hside] at TU htd
        simp only [Bool.false_eq_true, if_false] at TU htd
        rw [htd]
        generalize psB s 119 x.toNat = u at *
        generalize psB s 100 x.toNat = v at *
        generalize sideN t = sn at *
        clear he h hte htd e1 e2
        go_enter Tryd.func15, Tryd.ntmps15
        go_wp2_with (first
          | (go_at_call 30; refine PL.out.mono ?_; rintro e w1 ⟨rfl, hb1⟩)
          | (go_at_call 44; refine (TU.out _).mono ?_; rintro e w2 ⟨rfl, rfl⟩))
        go_ret2
        exact Ret.mk rfl hb1
      · rw [hside] at htd
        exact absurd htd hte
    · rw [if_neg h1] at htd
      rw [htd]
      have d1 : ((e : Int) != 0) = true := by rw [bne_iff_ne]; omega
      simp only [if_neg h1] at PL
      clear he h hte htd e1 e2
      go_enter Tryd.func15, Tryd.ntmps15
      go_wp2_with (first
        | (go_at_call 30; refine PL.out.mono ?_; rintro e w1 ⟨rfl, hb1⟩))
      go_ret2
      exact Ret.mk rfl hb1
end Go.Proofs.YtbdhceolchhnjaaDoor
