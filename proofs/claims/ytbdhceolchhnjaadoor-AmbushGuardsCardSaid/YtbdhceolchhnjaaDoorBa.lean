/- Layer 4, by the specification: Field, Placed. -/
import Derived.Test.YtbdhceolchhnjaaDoorQa
namespace Go.Proofs.YtbdhceolchhnjaaDoor
open Go Go.RowKit

set_option maxRecDepth 100000 in
set_option maxHeartbeats 4000000 in
theorem refField_any (x : Int) (a : Option Addr) (n c : Nat) (R : List Int) (w : World) (h : Ints w a R) (hn : R.length = n) :
    Calls Tryd.prog 31 #[.int .i64 x, .slice a n c] w (Ret (.int .i64 (fE x R : Nat)) w) := by
  by_cases h1 : x < 1 ∨ 9 < x
  · have he : fE x R = 2 := by unfold fE; rw [if_pos h1]
    rw [he]
    rcases h1 with h1 | h1
    · have g1 : decide (x < 1) = true := decide_eq_true h1
      clear h he hn
      go_enter Tryd.func31, Tryd.ntmps31
      go_wp2
      go_ret
      exact Ret.mk rfl (Below.refl _ _)
    · have g1 : decide (x < 1) = false := decide_eq_false (by omega)
      have g2 : decide (9 < x) = true := decide_eq_true h1
      clear h he hn
      go_enter Tryd.func31, Tryd.ntmps31
      go_wp2
      go_ret
      exact Ret.mk rfl (Below.refl _ _)
  · obtain ⟨m, rfl⟩ : ∃ m : Nat, x = m := ⟨x.toNat, by omega⟩
    have g1 : decide ((m : Int) < 1) = false := decide_eq_false (by omega)
    have g2 : decide ((9 : Int) < (m : Int)) = false := decide_eq_false (by omega)
    by_cases h2 : 12 < n
    · have he : fE (m : Int) R = 3 := by unfold fE; rw [if_neg h1, if_pos (by omega)]
      rw [he]
      have g3 : (12 : Int) < (n : Int) := by omega
      clear h he hn
      go_enter Tryd.func31, Tryd.ntmps31
      go_wp2
      go_ret
      exact Ret.mk rfl (Below.refl _ _)
    · have hm9 : m ≤ 9 := by omega
      have hfe : Hid (fE (m : Int) R = if R.any (badL m) then 2 else 0) := Lib.hid (by unfold fE; rw [if_neg (by omega), if_neg (by omega)]; rfl)
      have hc : Hid (0 < n → ∃ b off, a = some ⟨b, off, none⟩ ∧ ∀ i, i < n → w.cell? ⟨b, off + i, none⟩ = some (.int .i64 (nth R i))) := Lib.hid (fun h0 => by
        obtain ⟨b, off, e, hc⟩ := ints_at h (by omega)
        exact ⟨b, off, e, fun i hi => hc i (by omega)⟩)
      have hmem := Lib.hid (fun k (hk : k < n) => nth_mem (show k < R.length by omega))
      have hall : Hid ((∀ j, j < n → badL m (nth R j) = false) → R.any (badL m) = false) := Lib.hid (fun hh => by
        rw [List.any_eq_false]
        intro x hx
        obtain ⟨i, hi, rfl⟩ := mem_nth hx
        rw [hh i (by omega)]; simp)
      obtain ⟨e, he⟩ : ∃ e, Hid (fE (m : Int) R = e) := ⟨_, Lib.hid rfl⟩
      rw [he.out] at hfe ⊢
      have g3 : decide ((12 : Int) < (n : Int)) = false := decide_eq_false (by omega)
      have sh := wrap_shl (k := m) (by omega)
      clear h hn
      go_enter Tryd.func31, Tryd.ntmps31
      go_wp2
      go_loopw [5] (fun i wr => ∃ k : Nat, k ≤ n ∧ i = .int .i64 k ∧ (∀ j, j < k → badL m (nth R j) = false) ∧ Below w.heap.size w wr) (fun i _ => n - (intOf i).toNat)
      case atStart => exact ⟨0, by omega, rfl, fun j hj => absurd hj (by omega), Below.refl _ _⟩
      case round =>
        obtain ⟨k, hk, rfl, hno, B0⟩ := hrel
        replace hno := Lib.hid hno
        by_cases hlt : k < n
        · obtain ⟨b, off, rfl, hcc⟩ := hc.out (by omega)
          have z0 := cellX (cellB B0 (hcc k hlt))
          clear hcc
          have hki : (k : Int) < (n : Int) := by omega
          have hmk := Lib.hid (hmem.out k hlt)
          obtain ⟨z, hz⟩ : ∃ z, Hid (nth R k = z) := ⟨_, Lib.hid rfl⟩
          rw [hz.out] at z0 hmk
          by_cases z1 : z < 1
          · have he2 : Hid (e = 2) := Lib.hid (by rw [hfe.out, if_pos (List.any_eq_true.2 ⟨z, hmk.out, by unfold badL; rw [decide_eq_true z1]; rfl⟩)])
            rw [he2.out]
            have d1 : decide (z < 1) = true := decide_eq_true z1
            go_wp2
            refine wp_region_ext (by kernel_rfl) (by kernel_rfl) ?_
            repeat (go_big_quiet_step (exact rfl))
            refine wpQuiet_nil ?_
            rintro ⟨w1, hw1⟩
            dsimp only
            replace B0 := nextB B0 hw1
            clear z0 hw1
            go_wp2
            go_ret
            exact Ret.mk rfl B0
          · have d1 : decide (z < 1) = false := decide_eq_false z1
            by_cases z2 : ((pw m : Nat) : Int) ≤ z
            · have he2 : Hid (e = 2) := Lib.hid (by rw [hfe.out, if_pos (List.any_eq_true.2 ⟨z, hmk.out, by unfold badL; rw [d1, decide_eq_true z2]; rfl⟩)])
              rw [he2.out]
              have d2 : decide (((pw m : Nat) : Int) ≤ z) = true := decide_eq_true z2
              generalize pw m = N at *
              go_wp2
              refine wp_region_ext (by kernel_rfl) (by kernel_rfl) ?_
              repeat (go_big_quiet_step (exact rfl))
              refine wpQuiet_nil ?_
              rintro ⟨w1, hw1⟩
              dsimp only
              replace B0 := nextB B0 hw1
              clear z0 hw1
              go_wp2
              go_ret
              exact Ret.mk rfl B0
            · have hbad : Hid (badL m z = false) := Lib.hid (by unfold badL; rw [d1, decide_eq_false z2]; rfl)
              have d2 : decide (((pw m : Nat) : Int) ≤ z) = false := decide_eq_false z2
              generalize pw m = N at *
              go_wp2
              refine wp_region_ext (by kernel_rfl) (by kernel_rfl) ?_
              repeat (go_big_quiet_step (exact rfl))
              refine wpQuiet_nil ?_
              rintro ⟨w1, hw1⟩
              dsimp only
              replace B0 := nextB B0 hw1
              clear z0 hw1
              go_wp2
              go_roundw
              case rel => exact ⟨k + 1, by omega, by go_num, fun j hj => (by
                by_cases hjk : j = k
                · subst hjk; rw [hz.out]; exact hbad.out
                · exact hno.out j (by omega)), B0⟩
              case measure => simp [intOf]; omega
        · obtain rfl : k = n := by omega
          have he2 : Hid (e = 0) := Lib.hid (by rw [hfe.out, if_neg (by rw [hall.out hno.out]; simp)])
          go_wp2
          go_ret
          exact Ret.mk (by rw [he2.out]; rfl) B0
set_option maxRecDepth 100000 in
set_option maxHeartbeats 4000000 in
theorem refPlaced_any (x : Int) (a : Option Addr) (n c : Nat) (R : List Int) (s : ByteArray) (w : World) (h : Ints w a R) (hn : R.length = n) :
    Calls Tryd.prog 30 #[.int .i64 x, .slice a n c, .string s] w (Ret (.tuple #[.int .i64 (if pE x R s = 0 then psB s 119 x.toNat else 0 : Nat), .int .i64 (if pE x R s = 0 then psB s 100 x.toNat else 0 : Nat), .int .i64 (pE x R s : Nat)]) w) := by
  have F := Lib.hid (fun W hW => refField_any x a n c R W hW hn)
  have hI := Lib.hid h
  obtain ⟨e1, he1⟩ : ∃ e, Hid (fE x R = e) := ⟨_, Lib.hid rfl⟩
  obtain ⟨e2, he2⟩ : ∃ e, Hid (pE x R s = e) := ⟨_, Lib.hid rfl⟩
  obtain ⟨f1, hf1⟩ : ∃ f : Nat, Hid ((if e2 = 0 then psB s 119 x.toNat else 0) = f) := ⟨_, Lib.hid rfl⟩
  obtain ⟨g1, hp1⟩ : ∃ p : Nat, Hid ((if e2 = 0 then psB s 100 x.toNat else 0) = p) := ⟨_, Lib.hid rfl⟩
  rw [he1.out] at F
  rw [he2.out, hf1.out, hp1.out]
  have hpe : Hid (e2 = if e1 = 0 then (if (s.size : Int) = x ∧ okS s = true then 0 else 5) else e1) := Lib.hid (by rw [← he2.out, ← he1.out]; rfl)
  have he4 : e1 < 4 := by rw [← he1.out]; exact fE_lt x R
  clear h hn
  by_cases h1 : e1 = 0
  · subst h1
    obtain ⟨hx, hF⟩ := fE_ok he1.out
    obtain ⟨m, hm⟩ : ∃ m, x.toNat = m := ⟨_, rfl⟩
    rw [hm] at hx hF
    have hm9 := hF.le
    clear hF
    by_cases h2 : s.size = m
    · have hpe2 : Hid (e2 = if okS s = true then 0 else 5) := Lib.hid (by
        rw [hpe.out, if_pos rfl]
        cases okS s
        · rw [if_neg (by simp)]; rfl
        · rw [if_pos ⟨by omega, rfl⟩]; rfl)
      have hf2 : Hid (e2 = 0 → f1 = psB s 119 m ∧ g1 = psB s 100 m) := Lib.hid (fun h => by rw [← hf1.out, ← hp1.out, if_pos h, if_pos h, hm]; exact ⟨rfl, rfl⟩)
      have hf3 : Hid (e2 ≠ 0 → f1 = 0 ∧ g1 = 0) := Lib.hid (fun h => by rw [← hf1.out, ← hp1.out, if_neg h, if_neg h]; exact ⟨rfl, rfl⟩)
      have hbad : Hid (∀ k, k < m → okB (bytA s k) = false → e2 = 5) := Lib.hid (fun k hk hb => by
        rw [hpe2.out, if_neg]
        unfold okS
        rw [List.all_eq_true]
        intro hh
        have := hh k (List.mem_range.2 (by omega))
        rw [hb] at this; cases this)
      have hgood : Hid ((∀ k, k < m → okB (bytA s k) = true) → e2 = 0) := Lib.hid (fun hh => by
        rw [hpe2.out, if_pos]
        unfold okS
        rw [List.all_eq_true]
        exact fun k hk => hh k (by have := List.mem_range.1 hk; omega))
      clear hm
      subst hx
      have hsz : (s.size : Int) = (m : Int) := by omega
      have hbd := Lib.hid (fun k (hk : k ≤ m) => (show psB s 119 k < 512 ∧ psB s 100 k < 512 by
        have a1 := psB_lt s 119 k
        have a2 := psB_lt s 100 k
        have := pw_mono (show k ≤ 9 by omega)
        have h4 : pw 9 = 512 := rfl
        omega))
      go_enter Tryd.func30, Tryd.ntmps30
      go_wp2_with (go_at_call 31; refine (F.out _ hI.out).mono ?_; rintro e w1 ⟨rfl, hb1⟩)
      go_loopw [10, 11, 12] (fun u v i wr => ∃ k : Nat, k ≤ m ∧ i = .int .i64 k ∧ u = .int .i64 (psB s 119 k : Nat) ∧ v = .int .i64 (psB s 100 k : Nat) ∧ (∀ j, j < k → okB (bytA s j) = true) ∧ Below w.heap.size w wr) (fun _ _ i _ => m - (intOf i).toNat)
      case atStart => exact ⟨0, by omega, rfl, rfl, rfl, fun j hj => absurd hj (by omega), hb1⟩
      case round =>
        obtain ⟨k, hk, rfl, rfl, rfl, hno, B0⟩ := hrel
        replace hno := Lib.hid hno
        by_cases hlt : k < m
        · have hki : (k : Int) < (m : Int) := by omega
          have hks : k < s.size := by omega
          have hbz : Hid (bytA s k = (s[k]'hks).toNat) := Lib.hid (by unfold bytA; rw [dif_pos hks])
          obtain ⟨b1', b2'⟩ := hbd.out k hk
          have sh := wrap_shl (k := k) (by omega)
          have hpk : pw k ≤ 512 := by have := pw_mono (show k ≤ 9 by omega); have h4 : pw 9 = 512 := rfl; omega
          by_cases c1 : (s[k]'hks).toNat = 119
          · have hs1 : Hid (psB s 119 (k + 1) = psB s 119 k + pw k) := Lib.hid (by rw [psB, if_pos (hbz.out.trans c1)])
            have hs2 : Hid (psB s 100 (k + 1) = psB s 100 k) := Lib.hid (by rw [psB, if_neg (by rw [hbz.out, c1]; omega)])
            have hok2 : Hid (okB (bytA s k) = true) := Lib.hid (by rw [hbz.out, c1]; rfl)
            have had : IntKind.i64.wrap (((psB s 119 k : Nat) : Int) + ((pw k : Nat) : Int)) = ((psB s 119 k + pw k : Nat) : Int) := by rw [IntWalk.i64_in _ (by omega)]; omega
            generalize psB s 119 k = u at *
            generalize psB s 100 k = v at *
            go_wp2
            go_roundw
            case rel => exact ⟨k + 1, by omega, by go_num, by rw [hs1.out]; go_num, by rw [hs2.out], fun j hj => (by
              by_cases hjk : j = k
              · subst hjk; exact hok2.out
              · exact hno.out j (by omega)), B0⟩
            case measure => simp [intOf]; omega
          · have d1 : (((s[k]'hks).toNat : Int) == 119) = false := by rw [beq_eq_false_iff_ne]; omega
            by_cases c2 : (s[k]'hks).toNat = 100
            · have hs1 : Hid (psB s 100 (k + 1) = psB s 100 k + pw k) := Lib.hid (by rw [psB, if_pos (hbz.out.trans c2)])
              have hs2 : Hid (psB s 119 (k + 1) = psB s 119 k) := Lib.hid (by rw [psB, if_neg (by rw [hbz.out, c2]; omega)])
              have hok2 : Hid (okB (bytA s k) = true) := Lib.hid (by rw [hbz.out, c2]; rfl)
              have had : IntKind.i64.wrap (((psB s 100 k : Nat) : Int) + ((pw k : Nat) : Int)) = ((psB s 100 k + pw k : Nat) : Int) := by rw [IntWalk.i64_in _ (by omega)]; omega
              generalize psB s 119 k = u at *
              generalize psB s 100 k = v at *
              clear d1 c1
              go_wp2
              go_roundw
              case rel => exact ⟨k + 1, by omega, by go_num, by rw [hs2.out], by rw [hs1.out]; go_num, fun j hj => (by
                by_cases hjk : j = k
                · subst hjk; exact hok2.out
                · exact hno.out j (by omega)), B0⟩
              case measure => simp [intOf]; omega
            · have d2 : (((s[k]'hks).toNat : Int) == 100) = false := by rw [beq_eq_false_iff_ne]; omega
              have hs1 : Hid (psB s 100 (k + 1) = psB s 100 k) := Lib.hid (by rw [psB, if_neg (by rw [hbz.out]; exact c2)])
              have hs2 : Hid (psB s 119 (k + 1) = psB s 119 k) := Lib.hid (by rw [psB, if_neg (by rw [hbz.out]; exact c1)])
              by_cases c3 : (s[k]'hks).toNat = 46
              · have hok2 : Hid (okB (bytA s k) = true) := Lib.hid (by rw [hbz.out, c3]; rfl)
                generalize psB s 119 k = u at *
                generalize psB s 100 k = v at *
                clear d1 c1 d2 c2
                go_wp2
                go_roundw
                case rel => exact ⟨k + 1, by omega, by go_num, by rw [hs2.out], by rw [hs1.out], fun j hj => (by
                  by_cases hjk : j = k
                  · subst hjk; exact hok2.out
                  · exact hno.out j (by omega)), B0⟩
                case measure => simp [intOf]; omega
              · have d3 : (((s[k]'hks).toNat : Int) == 46) = false := by rw [beq_eq_false_iff_ne]; omega
                have e5 : Hid (e2 = 5) := Lib.hid (hbad.out k hlt (by
                  rw [hbz.out]
                  unfold okB
                  simp only [Bool.or_eq_false_iff, beq_eq_false_iff_ne]
                  exact ⟨⟨c1, c2⟩, c3⟩))
                obtain ⟨f5, g5⟩ := hf3.out (by rw [e5.out]; omega)
                replace f5 := Lib.hid f5
                replace g5 := Lib.hid g5
                rw [e5.out, f5.out, g5.out]
                clear c1 c2 c3
                go_wp2
                refine bodyPost_ret (v := .tuple #[.int .i64 0, .int .i64 0, .int .i64 5]) (by simp [results, Tryd.results30, go_sem]) rfl ?_
                exact Ret.mk rfl B0
        · obtain rfl : k = m := by omega
          have e5 : Hid (e2 = 0) := Lib.hid (hgood.out hno.out)
          obtain ⟨f5, g5⟩ := hf2.out e5.out
          replace f5 := Lib.hid f5
          replace g5 := Lib.hid g5
          go_wp2
          refine bodyPost_ret (v := .tuple #[.int .i64 (psB s 119 k : Nat), .int .i64 (psB s 100 k : Nat), .int .i64 0]) (by simp [results, Tryd.results30, go_sem]) rfl ?_
          exact Ret.mk (by rw [e5.out, f5.out, g5.out]; rfl) B0
    · have e5 : Hid (e2 = 5) := Lib.hid (by rw [hpe.out, if_pos rfl, if_neg (by omega)])
      have f5 : Hid (f1 = 0) := Lib.hid (by rw [← hf1.out, if_neg (by rw [e5.out]; omega)])
      have p5 : Hid (g1 = 0) := Lib.hid (by rw [← hp1.out, if_neg (by rw [e5.out]; omega)])
      rw [e5.out, f5.out, p5.out]
      have d2 : ((s.size : Int) != x) = true := by rw [bne_iff_ne]; omega
      clear hx hm
      go_enter Tryd.func30, Tryd.ntmps30
      go_wp2_with (go_at_call 31; refine (F.out _ hI.out).mono ?_; rintro e w1 ⟨rfl, hb1⟩)
      refine bodyPost_ret (v := .tuple #[.int .i64 0, .int .i64 0, .int .i64 5]) (by simp [results, Tryd.results30, go_sem]) rfl ?_
      exact Ret.mk rfl hb1
  · have e5 : Hid (e2 = e1) := Lib.hid (by rw [hpe.out, if_neg h1])
    have f5 : Hid (f1 = 0) := Lib.hid (by rw [← hf1.out, if_neg (by rw [e5.out]; exact h1)])
    have p5 : Hid (g1 = 0) := Lib.hid (by rw [← hp1.out, if_neg (by rw [e5.out]; exact h1)])
    rw [e5.out, f5.out, p5.out]
    have d1 : ((e1 : Int) != 0) = true := by rw [bne_iff_ne]; omega
    go_enter Tryd.func30, Tryd.ntmps30
    go_wp2_with (go_at_call 31; refine (F.out _ hI.out).mono ?_; rintro e w1 ⟨rfl, hb1⟩)
    refine bodyPost_ret (v := .tuple #[.int .i64 0, .int .i64 0, .int .i64 (e1 : Nat)]) (by simp [results, Tryd.results30, go_sem]) rfl ?_
    exact Ret.mk rfl hb1
end Go.Proofs.YtbdhceolchhnjaaDoor
