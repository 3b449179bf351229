/- Layer 8, the specification: Turn, Turns. -/
import Derived.Test.YtniknldeafmgaaaQe
namespace Go.Proofs.Ytniknldeafmgaaa
set_option linter.unusedSimpArgs false
set_option linter.unusedVariables false
open Go Go.RowKit

theorem refTurn_yes (a b : Nat) (g : Nat → Nat) (x y : Int) (ad : Option Addr) (c : Nat) (w : World) (hs : IsS a b g) (hI : Ints w ad (stL a g)) (h : HasP a b x y) :
    Calls Try.prog 24 #[.int .i64 (a : Int), .int .i64 (b : Int), .slice ad a c, .int .i64 x, .int .i64 y] w (GotS a (tnf a b g x.toNat y.toNat) w) := by
  have hA := asked_yes a b g ad c w hs hI
  unfold HasP at h
  obtain ⟨h1, h2, h3, h4⟩ := h
  obtain ⟨i, rfl⟩ : ∃ i : Nat, x = (i : Int) := ⟨x.toNat, by omega⟩
  obtain ⟨j, rfl⟩ : ∃ j : Nat, y = (j : Int) := ⟨y.toNat, by omega⟩
  have hT := Lib.hid (fun w hI => refTurn_any a b g i j ad c w hs.p hI (by omega) (by omega))
  replace hI := Lib.hid hI
  clear hs
  go_enter Try.func24, Try.ntmps24
  go_wp2_with (first
    | (go_at_call 48; refine hA.mono ?_; rintro _ w1 ⟨rfl, hw1⟩; replace hI := Lib.hid (hI.out.next hw1))
    | (go_at_call 56; (with_reducible refine (hT.out _ hI.out).mono ?_); rintro _ w2 ⟨a2, c2, rfl, hI2, hw2⟩))
  go_ret2
  exact ⟨_, _, rfl, hI2, nextB hw1 hw2⟩
theorem refTurn_bad (a b : Nat) (g : Nat → Nat) (x y : Int) (ad : Option Addr) (c : Nat) (w : World) (hs : IsS a b g) (hI : Ints w ad (stL a g)) (h : ¬ HasP a b x y) :
    Calls Try.prog 24 #[.int .i64 (a : Int), .int .i64 (b : Int), .slice ad a c, .int .i64 x, .int .i64 y] w (ErrL 2 w) := by
  have hA := asked_yes a b g ad c w hs hI
  have h' : x < 0 ∨ 0 ≤ x ∧ (a : Int) ≤ x ∨ 0 ≤ x ∧ x < (a : Int) ∧ y < 0 ∨ 0 ≤ x ∧ x < (a : Int) ∧ 0 ≤ y ∧ (b : Int) ≤ y := by unfold HasP at h; omega
  clear hs hI h
  rcases h' with h | ⟨h1, h2⟩ | ⟨h1, h2, h3⟩ | ⟨h1, h2, h3, h4⟩
  all_goals
    go_enter Try.func24, Try.ntmps24
    go_wp2_with (go_at_call 48; refine hA.mono ?_; rintro _ w1 ⟨rfl, hw1⟩)
    go_ret2
    exact Ret.mk rfl hw1
theorem refTurn_no (a b : Int) (xs : List Int) (x y : Int) (ad : Option Addr) (n c : Nat) (w : World) (hI : Ints w ad xs) (hl : xs.length = n) (hn : n ≤ 4611686018427387904) (h : ¬ StP a b xs) :
    Calls Try.prog 24 #[.int .i64 a, .int .i64 b, .slice ad n c, .int .i64 x, .int .i64 y] w (ErrL 2 w) := by
  have hA := asked_no a b xs ad n c w hI hl hn h
  clear hI hl h hn
  go_enter Try.func24, Try.ntmps24
  go_wp2_with (go_at_call 48; refine hA.mono ?_; rintro _ w1 ⟨rfl, hw1⟩)
  go_ret2
  exact Ret.mk rfl hw1
theorem refTurns_no (a b : Int) (xs : List Int) (pv : Value) (ad : Option Addr) (n c : Nat) (w : World) (hI : Ints w ad xs) (hl : xs.length = n) (hn : n ≤ 4611686018427387904) (h : ¬ StP a b xs) :
    Calls Try.prog 26 #[.int .i64 a, .int .i64 b, .slice ad n c, pv] w (ErrL 2 w) := by
  have hA := asked_no a b xs ad n c w hI hl hn h
  clear hI hl h hn
  go_enter Try.func26, Try.ntmps26
  go_wp2_with (go_at_call 48; refine hA.mono ?_; rintro _ w1 ⟨rfl, hw1⟩)
  go_ret2
  exact Ret.mk rfl hw1
theorem refTurns_long (a b : Nat) (g : Nat → Nat) (ad ap : Option Addr) (c n cp : Nat) (w : World) (hs : IsS a b g) (hI : Ints w ad (stL a g)) (hn : 200 < n) :
    Calls Try.prog 26 #[.int .i64 (a : Int), .int .i64 (b : Int), .slice ad a c, .slice ap n cp] w (ErrL 3 w) := by
  have hA := asked_yes a b g ad c w hs hI
  have hn' : (200 : Int) < (n : Int) := by omega
  clear hs hI
  go_enter Try.func26, Try.ntmps26
  go_wp2_with (go_at_call 48; refine hA.mono ?_; rintro _ w1 ⟨rfl, hw1⟩)
  go_ret2
  exact Ret.mk rfl hw1
set_option maxRecDepth 100000 in
set_option maxHeartbeats 4000000 in
theorem refTurns_core (a b : Nat) (g : Nat → Nat) (L : List (Int × Int)) (ad ap : Option Addr) (c n cp k0 : Nat) (w : World) (Q : Ending → World → Prop) (hs : IsS a b g) (hI : Ints w ad (stL a g)) (hL : Prs w ap L) (hl : L.length = n) (hn : n ≤ 200) (hk0 : k0 ≤ n)
    (hok : ∀ i, i < k0 → HasP a b (pth L i).1 (pth L i).2) (hE : (k0 = n ∧ Q = GotS a (tnsF a b g L) w) ∨ (k0 < n ∧ ¬ HasP a b (pth L k0).1 (pth L k0).2 ∧ Q = ErrL 2 w)) :
    Calls Try.prog 26 #[.int .i64 (a : Int), .int .i64 (b : Int), .slice ad a c, .slice ap n cp] w Q := by
  have hA := asked_yes a b g ad c w hs hI
  have hc : Hid (∀ i, i < n → ∃ B off, ap = some ⟨B, off, none⟩ ∧ ∀ j, j < n → w.cell? ⟨B, off + j * 2, none⟩ = some (.int .i64 (pth L j).1) ∧ w.cell? ⟨B, off + j * 2 + 1, none⟩ = some (.int .i64 (pth L j).2)) := Lib.hid (fun i hi => by
    obtain ⟨B, off, h1, h2⟩ := prs_at hL (by omega)
    exact ⟨B, off, h1, by rw [hl] at h2; exact h2⟩)
  have htk := Lib.hid (fun k (h : k < n) => tnsF_snoc a b g (L.take k) (pth L k))
  have hsn := Lib.hid (fun k (h : k < n) => take_snocP L k (by omega))
  have hPk := Lib.hid (fun k => tnsF_P hs.p (L.take k))
  have h1 := hs.p.a1
  have h6 := hs.p.a6
  have hb6 := hs.p.b6
  have h0 : Hid (tnsF a b g (L.take 0) = g) := Lib.hid rfl
  have hall : Hid (tnsF a b g (L.take n) = tnsF a b g L) := Lib.hid (by rw [← hl, List.take_length])
  have hlg := Lib.hid (stL_len a g)
  obtain ⟨B0, off0, rfl, _⟩ := ints_at hI (by rw [stL_len]; omega)
  replace hok := Lib.hid hok
  replace hE := Lib.hid hE
  replace hI := Lib.hid hI
  clear hs hL hl
  have hn' : (n : Int) ≤ 200 := by omega
  go_enter Try.func26, Try.ntmps26
  go_upto_region 6 with (go_at_call 48; refine hA.mono ?_; rintro _ w1 ⟨rfl, hw1⟩; replace hI := Lib.hid (hI.out.next hw1); replace hw1 := Lib.hid hw1)
  have hs0 := Lib.hid (World.ownsRow_lit (base := w1.heap.size) (e := 3) (size := 1) w1 #[] 0 (Nat.le_refl _) (by unfold maxLen; omega) rfl)
  have hI1 := Lib.hid (hI.out.next (b1 w1 (.cells #[] 3)))
  go_wp2_with (at_builtin; refine wpList_copy rfl _ _ rfl w1.heap.size _ rfl hs0.out _ a c (stL a g) rfl hI1.out hlg.out (by simp) (by omega) (by simp) ?_; intro a' c' w' hown' hg' hc' hI')
  have B := nextB hw1.out ((b1 w1 (.cells #[] 3)).grown hg' (by simp) (fun q hq => by have := (hs0.out.lt q hq).1; omega))
  clear hown' hg' hs0 hI1
  go_loopw [11, 12] (fun v q wr => ∃ k : Nat, ∃ av cv, k ≤ k0 ∧ q = .int .i64 (k : Int) ∧ v = .slice av a cv ∧ Ints wr av (stL a (tnsF a b g (L.take k))) ∧ Below w.heap.size w wr) (fun _ q _ => n - (intOf q).toNat)
  case atStart => exact ⟨0, a', c', Nat.zero_le _, rfl, rfl, by rw [h0.out]; exact hI', B⟩
  case round =>
    clear hI' B
    obtain ⟨k, av, cv, hk, rfl, rfl, hIv, B⟩ := hrel
    replace hIv := Lib.hid hIv
    replace B := Lib.hid B
    by_cases hkn : k < n
    · have hka' : (k : Int) < (n : Int) := by omega
      obtain ⟨Bp, off, rfl, hcell⟩ := hc.out k hkn
      obtain ⟨x0, x1⟩ := hcell k hkn
      have x0 := cellB B.out x0
      have x1 := cellB B.out x1
      replace hcell := Lib.hid hcell
      have htk' := Lib.hid (htk.out k hkn)
      have hsn' := Lib.hid (hsn.out k hkn)
      have hPk' := Lib.hid (hPk.out k)
      have hok' := Lib.hid (fun h => hok.out k h)
      have hE' : Hid (k0 ≤ k → ¬ HasP a b (pth L k).1 (pth L k).2 ∧ Q = ErrL 2 w) := Lib.hid (fun h => by
        obtain rfl : k0 = k := by omega
        rcases hE.out with ⟨h, _⟩ | ⟨_, h1, h2⟩
        · omega
        · exact ⟨h1, h2⟩)
      obtain ⟨F, hF⟩ : ∃ F, Hid (tnsF a b g (L.take k) = F) := ⟨_, Lib.hid rfl⟩
      rw [hF.out] at hIv htk' hPk'
      obtain ⟨x, hx⟩ : ∃ x, Hid ((pth L k).1 = x) := ⟨_, Lib.hid rfl⟩
      obtain ⟨y, hy⟩ : ∃ y, Hid ((pth L k).2 = y) := ⟨_, Lib.hid rfl⟩
      rw [hx.out] at x0 htk' hok' hE'
      rw [hy.out] at x1 htk' hok' hE'
      by_cases hkk : k < k0
      · have hH := hok'.out hkk
        unfold HasP at hH
        obtain ⟨i, rfl⟩ : ∃ i : Nat, x = (i : Int) := ⟨x.toNat, by omega⟩
        obtain ⟨j, rfl⟩ : ∃ j : Nat, y = (j : Int) := ⟨y.toNat, by omega⟩
        have hi1 : (i : Int) < (a : Int) := by omega
        have hj1 : (j : Int) < (b : Int) := by omega
        have hT := Lib.hid (fun av cv w h => refTurn_any a b F i j av cv w hPk'.out h (by omega) (by omega))
        have htk2 : Hid (tnsF a b g (L.take (k + 1)) = tnf a b F i j) := Lib.hid (by rw [hsn'.out]; have := htk'.out; exact this)
        clear hH hok' hE' htk'
        go_upto_region 12 with (fail)
        have x0 := cellX x0
        have x1 := cellX x1
        have hi0 : (0 : Int) ≤ (i : Int) := by omega
        have hk0' : (0 : Int) ≤ (k : Int) := by omega
        refine wp_region_ext_tail 11 (by kernel_rfl) (by kernel_rfl) ?_
        simp only [List.take_succ_cons, List.take_zero, List.drop_succ_cons, List.drop_zero]
        repeat (go_big_quiet_step (fail))
        refine wpQuiet_nil ?_
        rintro ⟨w2, hw2⟩
        dsimp only
        replace hIv := Lib.hid (hIv.out.next hw2)
        replace B := Lib.hid (nextB B.out hw2)
        clear x0 x1 hw2
        go_wp2_with (go_at_call 56; (with_reducible refine (hT.out _ _ _ hIv.out).mono ?_); rintro _ w3 ⟨a3, c3, rfl, hI3, hw3⟩)
        go_roundw
        case rel => exact ⟨k + 1, a3, c3, by omega, by go_num, rfl, by rw [htk2.out]; exact hI3, nextB B.out hw3⟩
        case measure => simp [intOf]; omega
      · obtain ⟨hH, hQ⟩ := hE'.out (by omega)
        clear hok' hE' hE
        subst hQ
        have h' : x < 0 ∨ 0 ≤ x ∧ (a : Int) ≤ x ∨ 0 ≤ x ∧ x < (a : Int) ∧ y < 0 ∨ 0 ≤ x ∧ x < (a : Int) ∧ 0 ≤ y ∧ (b : Int) ≤ y := by unfold HasP at hH; omega
        clear hH
        rcases h' with c1 | ⟨c1, c2⟩ | ⟨c1, c2, c3⟩ | ⟨c1, c2, c3, c4⟩
        all_goals
          go_wp2
          go_ret2
          exact Ret.mk rfl B.out
    · have hkn' : (n : Int) ≤ (k : Int) := by omega
      have hke : Hid (k = n ∧ k0 = n) := Lib.hid (by omega)
      have hQ : Q = GotS a (tnsF a b g L) w := by
        rcases hE.out with ⟨_, h⟩ | ⟨h, _⟩
        · exact h
        · have := hke.out; omega
      clear hE
      subst hQ
      rw [hke.out.1, hall.out] at hIv
      generalize tnsF a b g L = F at *
      go_wp2
      go_ret2
      exact ⟨av, cv, rfl, hIv.out, B.out⟩
theorem refTurns_yes (a b : Nat) (g : Nat → Nat) (L : List (Int × Int)) (ad ap : Option Addr) (c n cp : Nat) (w : World) (hs : IsS a b g) (hI : Ints w ad (stL a g)) (hL : Prs w ap L) (hl : L.length = n) (hn : n ≤ 200)
    (hok : ∀ i, i < n → HasP a b (pth L i).1 (pth L i).2) :
    Calls Try.prog 26 #[.int .i64 (a : Int), .int .i64 (b : Int), .slice ad a c, .slice ap n cp] w (GotS a (tnsF a b g L) w) :=
  refTurns_core a b g L ad ap c n cp n w _ hs hI hL hl hn (Nat.le_refl _) hok (.inl ⟨rfl, rfl⟩)
theorem refTurns_bad (a b : Nat) (g : Nat → Nat) (L : List (Int × Int)) (ad ap : Option Addr) (c n cp : Nat) (w : World) (hs : IsS a b g) (hI : Ints w ad (stL a g)) (hL : Prs w ap L) (hl : L.length = n) (hn : n ≤ 200)
    (hno : ¬ ∀ i, i < n → HasP a b (pth L i).1 (pth L i).2) :
    Calls Try.prog 26 #[.int .i64 (a : Int), .int .i64 (b : Int), .slice ad a c, .slice ap n cp] w (ErrL 2 w) := by
  rcases least_bad (P := fun i => HasP a b (pth L i).1 (pth L i).2) n with h | ⟨k, h1, h2, h3⟩
  · exact absurd h hno
  · exact refTurns_core a b g L ad ap c n cp k w _ hs hI hL hl hn (by omega) h3 (.inr ⟨h1, h2, rfl⟩)
end Go.Proofs.Ytniknldeafmgaaa
