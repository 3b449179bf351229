/- Layer 4, by the specification: who wins, with a list of what is known. -/
import Derived.Test.YtbdhceolchhnjaaDoorKa
namespace Go.Proofs.YtbdhceolchhnjaaDoor
open Go Go.RowKit

theorem full_or {m x y : Nat} (hp : PosP m x y) : x ||| y = pw m - 1 ↔ frL m x y = [] := by
  constructor
  · intro h
    rw [List.eq_nil_iff_forall_not_mem]
    intro i hi
    obtain ⟨h1, h2, h3⟩ := frL_mem.1 hi
    have : (x ||| y).testBit i = true := by rw [h, full_test]; simpa using h1
    rw [Nat.testBit_or, h2, h3] at this
    cases this
  · intro h
    apply Nat.eq_of_testBit_eq
    intro i
    rw [full_test, Nat.testBit_or]
    by_cases hi : i < m
    · have : i ∉ frL m x y := by rw [h]; simp
      rw [frL_mem] at this
      cases hx : x.testBit i
      · cases hy : y.testBit i
        · exact absurd ⟨hi, hx, hy⟩ this
        · simp [hi]
      · simp [hi]
    · have hlt : ∀ z, z < pw m → z.testBit i = false := fun z hz => Nat.testBit_lt_two_pow (Nat.lt_of_lt_of_le hz (by unfold pw; exact Nat.pow_le_pow_right (by omega) (by omega)))
      rw [hlt _ hp.hw, hlt _ hp.hd]
      simp [hi]
theorem or_bit {m x y k : Nat} (hk : k < m) : bt (x ||| y) k = if k ∈ frL m x y then 0 else 1 := by
  rw [bt_test, Nat.testBit_or]
  by_cases h : k ∈ frL m x y
  · obtain ⟨_, h2, h3⟩ := frL_mem.1 h
    rw [if_pos h, h2, h3]; rfl
  · rw [if_neg h]
    rw [frL_mem] at h
    cases hx : x.testBit k
    · cases hy : y.testBit k
      · exact absurd ⟨hk, hx, hy⟩ h
      · rfl
    · rfl
/-- The specification's game, in a world. -/
structure StR (m : Nat) (a : Option Addr) (n c : Nat) (R : List Int) (G K : Nat) (w0 w : World) : Prop where
  below : Below w0.heap.size w0 w
  kn : KnR m R K w
  loG : w0.heap.size ≤ G
  loK : w0.heap.size ≤ K
  ne : G ≠ K
  game : Blk w G 106 #[.int .i64 (m : Nat), .slice a n c, .slice (some ⟨K, 0, none⟩) (kN m) (kN m)]
  ints : Ints w0 a R
theorem StR.step {m : Nat} {a : Option Addr} {n c : Nat} {R : List Int} {G K : Nat} {w0 w w' : World} (h : StR m a n c R G K w0 w) (hk : Keep K w w') (hm : KnR m R K w') : StR m a n c R G K w0 w' :=
  ⟨hk.below h.below h.loK, hm, h.loG, h.loK, h.ne, hk.blk h.ne h.game, h.ints⟩
theorem StR.next {m : Nat} {a : Option Addr} {n c : Nat} {R : List Int} {G K : Nat} {w0 w w' : World} (h : StR m a n c R G K w0 w) (hb : Below w.heap.size w w') : StR m a n c R G K w0 w' := h.step (Keep.of hb) (h.kn.next hb)
theorem Keep.set (K i : Nat) (w : World) (v : Value) : Keep K w (w.setCell ⟨K, i, none⟩ v) :=
  ⟨rfl, rfl, rfl, by simp [World.setCell], fun k _ hne => Below.heap_setCell _ _ _ _ hne⟩
/-- An answer, and what is known. -/
def WoR (m : Nat) (R : List Int) (K : Nat) (v : Value) (w : World) (e : Ending) (w' : World) : Prop := e = .returned v ∧ Keep K w w' ∧ KnR m R K w'
theorem known_two {m : Nat} {R : List Int} {f : Nat → Int} (h : KnF m R f) {x y s at' : Nat} (hat : kI m x y s = at') (hp : PosP m x y) (hs : s < 2) {b : Bool} (hb : win m R x y (s == 1) = b) {K : Nat} {w : World}
    (hB : Blk w K 3 (cN m f)) (v : Int) : KnR m R K ((w.setCell ⟨K, at', none⟩ (.int .i64 v)).setCell ⟨K, at', none⟩ (.int .i64 (wV b))) := by
  refine ⟨fun i => if i = at' then wV b else f i, ?_, by have := h.put hp hs hb; rw [hat] at this; exact this⟩
  have h2 := (hB.setA (i := at') (.int .i64 v)).setA (i := at') (.int .i64 (wV b))
  rw [cN_set, cN_set] at h2
  have e : (fun i => if i = at' then wV b else (if i = at' then v else f i)) = fun i => if i = at' then wV b else f i := by
    funext i
    split <;> rfl
  rw [e] at h2
  exact h2
theorem known_one {m : Nat} {R : List Int} {f : Nat → Int} (h : KnF m R f) {x y s at' : Nat} (hat : kI m x y s = at') (hp : PosP m x y) (hs : s < 2) {b : Bool} (hb : win m R x y (s == 1) = b) {K : Nat} {w : World}
    (hB : Blk w K 3 (cN m f)) : KnR m R K (w.setCell ⟨K, at', none⟩ (.int .i64 (wV b))) := by
  refine ⟨fun i => if i = at' then wV b else f i, ?_, by have := h.put hp hs hb; rw [hat] at this; exact this⟩
  have h2 := hB.setA (i := at') (.int .i64 (wV b))
  rw [cN_set] at h2
  exact h2
theorem tail_facts {m : Nat} {a : Option Addr} {n c : Nat} {R : List Int} {G K : Nat} {w0 wr : World} (hS : StR m a n c R G K w0 wr) {at' : Nat} (hlt : at' < kN m) (w4 : World) (hK4 : Keep K wr w4) (hN4 : KnR m R K w4) :
    ∃ f4, Hid (KnF m R f4) ∧ Hid (Blk w4 K 3 (cN m f4)) ∧ w4.cell? ⟨G, 0, none⟩ = some (.int .i64 (m : Nat)) ∧ w4.cell? ⟨G, 2, none⟩ = some (.slice (some ⟨K, 0, none⟩) (kN m) (kN m)) ∧ w4.cell? ⟨K, at', none⟩ = some (.int .i64 (f4 at')) ∧ w4.frozen? ⟨K, at', none⟩ = false
      ∧ (w4.setCell ⟨K, at', none⟩ (.int .i64 (-1))).cell? ⟨G, 2, none⟩ = some (.slice (some ⟨K, 0, none⟩) (kN m) (kN m)) ∧ (w4.setCell ⟨K, at', none⟩ (.int .i64 (-1))).cell? ⟨K, at', none⟩ = some (.int .i64 (-1)) ∧ (w4.setCell ⟨K, at', none⟩ (.int .i64 (-1))).frozen? ⟨K, at', none⟩ = false := by
  have hG4 := (hS.step hK4 hN4).game
  obtain ⟨f4, hB4, hf4⟩ := hN4
  have hs1 := hB4.setA (i := at') (.int .i64 (-1))
  have hg1 := hG4.other (B' := K) (i := at') hS.ne (.int .i64 (-1))
  exact ⟨f4, Lib.hid hf4, Lib.hid hB4, hG4.c3.1, hG4.c3.2.2, hB4.c at' (cN_get f4 hlt), hB4.fr at', hg1.c3.2.2, hs1.c at' (by rw [Array.getElem?_setIfInBounds_self_of_lt (by rw [cN_size]; exact hlt)]), hs1.fr at'⟩
section
variable (m : Nat) (a : Option Addr) (n c : Nat) (R : List Int) (G K : Nat) (w0 : World)
set_option maxRecDepth 100000 in
set_option maxHeartbeats 8000000 in
theorem wolves0_step (hF : FieldP m R) (hn : R.length = n) {x y : Nat} {w : World} (hst : StR m a n c R G K w0 w) (hp : PosP m x y)
    (IH : ∀ i ∈ frL m x y, ∀ W, StR m a n c R G K w0 W → Calls Tryd.prog 46 #[.pointer (some ⟨G, 0, none⟩), .int .i64 ((x : Int) + ((pw i : Nat) : Int)), .int .i64 (y : Nat), .int .i64 1] W (WoR m R K (.bool (win m R (x + pw i) y true)) W)) :
    Calls Tryd.prog 46 #[.pointer (some ⟨G, 0, none⟩), .int .i64 (x : Nat), .int .i64 (y : Nat), .int .i64 0] w (WoR m R K (.bool (win m R x y false)) w) := by
  have hm9 := hF.le
  obtain ⟨hx, hy⟩ := hp.lt hm9
  have n12 : n ≤ 12 := by have := hF.few; omega
  have HAS := Lib.hid (fun W (hW : Below w0.heap.size w0 W) => refHas_any a n c R x W (hst.ints.next hW) hn (by omega) (by omega) hF.sets)
  obtain ⟨x0, x1, x2⟩ := hst.game.c3
  have o1 := i64_or_nat x y (by omega) (by omega)
  have sh := wrap_shl (k := m) (by omega)
  have hmin : min m 64 = m := by omega
  have hpl : pw m ≤ 512 := by have := pw_mono hm9; have h4 : pw 9 = 512 := rfl; omega
  have hpp := pw_pos m
  have hst' := Lib.hid hst
  have hbl := Lib.hid hst.below
  cases hh : hasOne R x
  · rw [hh] at HAS
    have hor : (x ||| y) < 512 := Nat.or_lt_two_pow (n := 9) hx hy
    by_cases hfr : frL m x y = []
    · have hw : Hid (win m R x y false = false) := Lib.hid (by rw [win_full _ hfr, hh])
      have ho : ((((x ||| y : Nat) : Int)) == ((pw m : Nat) : Int) - 1) = true := by rw [beq_iff_eq, (full_or hp).2 hfr]; omega
      have hkn := Lib.hid hst.kn
      rw [hw.out]
      clear hst hfr
      generalize x ||| y = o at *
      generalize pw m = pm at *
      go_enter Tryd.func46, Tryd.ntmps46
      go_wp2_with (go_at_call 50; refine (HAS.out _ hbl.out).mono ?_; rintro e w1 ⟨rfl, rfl⟩)
      go_ret
      exact ⟨rfl, Keep.refl _ _, hkn.out⟩
    · have ho : ((((x ||| y : Nat) : Int)) == ((pw m : Nat) : Int) - 1) = false := by
        rw [beq_eq_false_iff_ne]
        intro h
        exact hfr ((full_or hp).1 (by omega))
      obtain ⟨at', hat⟩ : ∃ at', kI m x y 0 = at' := ⟨_, rfl⟩
      have hlt := kI_lt hp.hw hp.hd (show 0 < 2 by omega)
      have hle := kN_le hm9
      rw [hat] at hlt
      have hxm : (x : Int) * 2 ^ m = ((x * pw m : Nat) : Int) := by rw [pw_int]; simp
      have hxb : x * pw m ≤ 524288 := by unfold kI at hat; omega
      have w1 : IntKind.i64.wrap ((x : Int) * 2 ^ m) = ((x * pw m : Nat) : Int) := by rw [hxm]; exact IntWalk.i64_in _ (by omega)
      have w2 : wrap64 ((x : Int) * 2 ^ m) = ((x * pw m : Nat) : Int) := by rw [hxm]; exact IntWalk.wrap64_in _ ⟨by omega, by omega⟩
      have hai : (((x * pw m : Nat) : Int) + (y : Int)) * 2 = ((at' : Nat) : Int) := by rw [← hat]; unfold kI; omega
      have hyp : y < pw m := hp.hd
      have hwe := win_eq m R x y false
      rw [hh] at hwe
      have hne : (frL m x y).isEmpty = false := by
        cases hl : frL m x y
        · exact absurd hl hfr
        · rfl
      rw [hne] at hwe
      simp only [Bool.false_or, Bool.not_false, Bool.true_and, Bool.false_eq_true, if_false, if_true] at hwe
      obtain ⟨f, hB, hf⟩ := hst.kn
      have z0 := hB.c at' (cN_get f (by omega))
      have P1 := Lib.hid (fun (f' : Nat → Int) (hf' : KnF m R f') W (hW : Blk W K 3 (cN m f')) (b : Bool) (hb : win m R x y false = b) => known_one hf' hat hp (show 0 < 2 by omega) hb hW)
      have P2 := Lib.hid (fun (f' : Nat → Int) (hf' : KnF m R f') W (hW : Blk W K 3 (cN m f')) (b : Bool) (hb : win m R x y false = b) (v : Int) => known_two hf' hat hp (show 0 < 2 by omega) hb hW v)
      have hkn := Lib.hid hst.kn
      rcases (show f (kI m x y 0) = 0 ∨ f (kI m x y 0) = wV (win m R x y false) from hf x y 0 hp (by omega)) with h0 | h0
      · -- it is not known yet
        rw [hat] at h0
        rw [h0] at z0
        have hwf : Hid ((∀ j, j < m → j ∈ frL m x y → win m R (x + pw j) y true = false) → win m R x y false = false) := Lib.hid (fun h => by
          rw [hwe]
          rw [List.any_eq_false]; intro j hj; rw [h j (frL_mem.1 hj).1 hj]; simp)
        have hwt : Hid (∀ j, j ∈ frL m x y → win m R (x + pw j) y true = true → win m R x y false = true) := Lib.hid (fun j hj h => by
          rw [hwe]
          exact List.any_eq_true.2 ⟨j, hj, h⟩)
        have ob := Lib.hid (fun k (hk : k < m) => or_bit (x := x) (y := y) hk)
        have sb := Lib.hid (fun k => bt_int (x ||| y) k)
        replace IH := Lib.hid IH
        have TF := Lib.hid (fun W (hW : StR m a n c R G K w0 W) w4 hK4 hN4 => tail_facts (at' := at') hW hlt w4 hK4 hN4)
        have hne' := Lib.hid hst.ne
        have hpl2 := Lib.hid (fun k (hk : k < m) => (show pw k ≤ 512 from Nat.le_trans (pw_mono (by omega)) hpl))
        clear hst hf hB hwe hne hfr hat h0
        generalize hqq : x * pw m = q at *
        replace hqq := Lib.hid hqq
        generalize hoo : x ||| y = o at *
        replace hoo := Lib.hid hoo
        generalize hpm : pw m = pm at *
        replace hpm := Lib.hid hpm
        generalize hkk : kN m = N at *
        replace hkk := Lib.hid hkk
        clear hqq
        go_enter Tryd.func46, Tryd.ntmps46
        go_wp2_with (go_at_call 50; refine (HAS.out _ hbl.out).mono ?_; rintro e w1 ⟨rfl, rfl⟩)
        go_loopw [11, 12] (fun v i wr => ∃ k : Nat, k ≤ m ∧ i = .int .i64 k ∧ v = .bool false ∧ Keep K w wr ∧ KnR m R K wr ∧ ∀ j, j < k → j ∈ frL m x y → win m R (x + pw j) y true = false) (fun _ i _ => m - (intOf i).toNat)
        case atStart => exact ⟨0, by omega, rfl, rfl, Keep.refl _ _, hkn.out, fun j hj => by omega⟩
        case round =>
          clear x0 x1 x2 z0
          obtain ⟨k, hk, rfl, rfl, hK, hN, hall⟩ := hrel
          replace hall := Lib.hid hall
          have hS := Lib.hid (hst'.out.step hK hN)
          obtain ⟨x0, x1, x2⟩ := hS.out.game.c3
          rw [hkk.out] at x2
          by_cases hlk : k < m
          · have hki : (k : Int) < (m : Int) := by omega
            have hsb := sb.out k
            rw [ob.out k hlk] at hsb
            by_cases hfk : k ∈ frL m x y
            · rw [if_pos hfk] at hsb
              have hbt : (((o : Int) / 2 ^ k).tmod 2 == 1) = false := by rw [hsb]; rfl
              have shk := wrap_shl (k := k) (by omega)
              have hmk : min k 64 = k := by omega
              have hpk := hpl2.out k hlk
              have IHk := Lib.hid (IH.out k hfk wr hS.out)
              obtain ⟨b, hb⟩ : ∃ b, win m R (x + pw k) y true = b := ⟨_, rfl⟩
              rw [hb] at IHk
              clear hsb
              have hfk' := Lib.hid hfk
              clear hfk
              generalize hpkk : pw k = pk at *
              replace hpkk := Lib.hid hpkk
              cases b
              · replace hb := Lib.hid hb
                go_wp2_with (go_at_call 46; refine IHk.out.mono ?_; rintro e w4 ⟨rfl, hK4, hN4⟩)
                go_roundw
                case rel => exact ⟨k + 1, by omega, by go_num, rfl, hK.trans hK4, hN4, fun j hj hm2 => (by
                  by_cases hjk : j = k
                  · subst hjk; rw [hpkk.out]; exact hb.out
                  · exact hall.out j (by omega) hm2)⟩
                case measure => simp [intOf]; omega
              · replace hb := Lib.hid hb
                have hres := Lib.hid (hwt.out k hfk'.out (by rw [hpkk.out]; exact hb.out))
                go_wp2_with (go_at_call 46; refine IHk.out.mono ?_; rintro e w4 ⟨rfl, hK4, hN4⟩; obtain ⟨f4, hf4, hB4, q0, q2, q3, q4, r2, r3, r4⟩ := TF.out wr hS.out w4 hK4 hN4; replace hN4 := Lib.hid hN4)
                go_ret
                exact ⟨by rw [hres.out]; rfl, ((hK.trans hK4).trans (Keep.set K at' _ _)).trans (Keep.set K at' _ _), P2.out f4 hf4.out _ hB4.out true hres.out (-1)⟩
            · rw [if_neg hfk] at hsb
              have hbt : (((o : Int) / 2 ^ k).tmod 2 == 1) = true := by rw [hsb]; rfl
              have hfk' := Lib.hid hfk
              clear hsb hfk
              go_wp2
              go_roundw
              case rel => exact ⟨k + 1, by omega, by go_num, rfl, hK, hN, fun j hj hm2 => (by
                by_cases hjk : j = k
                · subst hjk; exact absurd hm2 hfk'.out
                · exact hall.out j (by omega) hm2)⟩
              case measure => simp [intOf]; omega
          · have hkm : k = m := by omega
            have hki : ¬ ((k : Int) < (m : Int)) := by omega
            have hres := Lib.hid (hwf.out (fun j hj h2 => hall.out j (by omega) h2))
            obtain ⟨f4, hf4, hB4, q0, q2, q3, q4, r2, r3, r4⟩ := TF.out wr hS.out wr (Keep.refl _ _) hN
            replace hN := Lib.hid hN
            clear x0 x1 x2
            obtain ⟨x0, x1, x2⟩ := hS.out.game.c3
            rw [hkk.out] at x2
            go_wp2
            go_ret
            exact ⟨by rw [hres.out]; rfl, (hK).trans (Keep.set K at' _ _), P1.out f4 hf4.out _ hB4.out false hres.out⟩
      · -- it is known
        rw [hat] at h0
        rw [h0] at z0
        clear IH hst hf hB hwe hne hfr hat P1 P2
        generalize x * pw m = q at *
        generalize x ||| y = o at *
        generalize pw m = pm at *
        generalize kN m = N at *
        cases hres : win m R x y false
        all_goals
          rw [hres] at z0 h0
          unfold wV at z0
          simp only [Bool.false_eq_true, if_false, if_true] at z0
          replace h0 := Lib.hid h0
          replace hres := Lib.hid hres
          go_enter Tryd.func46, Tryd.ntmps46
          go_wp2_with (go_at_call 50; refine (HAS.out _ hbl.out).mono ?_; rintro e w1 ⟨rfl, rfl⟩)
          go_ret
          exact ⟨rfl, Keep.refl _ _, hkn.out⟩
  · rw [hh] at HAS
    have hw : Hid (win m R x y false = true) := Lib.hid (win_has _ _ hh)
    have hkn := Lib.hid hst.kn
    rw [hw.out]
    clear hst
    generalize pw m = pm at *
    go_enter Tryd.func46, Tryd.ntmps46
    go_wp2_with (go_at_call 50; refine (HAS.out _ hbl.out).mono ?_; rintro e w1 ⟨rfl, rfl⟩)
    go_ret
    exact ⟨rfl, Keep.refl _ _, hkn.out⟩
set_option maxRecDepth 100000 in
set_option maxHeartbeats 8000000 in
theorem wolves1_step (hF : FieldP m R) (hn : R.length = n) {x y : Nat} {w : World} (hst : StR m a n c R G K w0 w) (hp : PosP m x y)
    (IH : ∀ i ∈ frL m x y, ∀ W, StR m a n c R G K w0 W → Calls Tryd.prog 46 #[.pointer (some ⟨G, 0, none⟩), .int .i64 (x : Nat), .int .i64 ((y : Int) + ((pw i : Nat) : Int)), .int .i64 0] W (WoR m R K (.bool (win m R x (y + pw i) false)) W)) :
    Calls Tryd.prog 46 #[.pointer (some ⟨G, 0, none⟩), .int .i64 (x : Nat), .int .i64 (y : Nat), .int .i64 1] w (WoR m R K (.bool (win m R x y true)) w) := by
  have hm9 := hF.le
  obtain ⟨hx, hy⟩ := hp.lt hm9
  have n12 : n ≤ 12 := by have := hF.few; omega
  have HAS := Lib.hid (fun W (hW : Below w0.heap.size w0 W) => refHas_any a n c R x W (hst.ints.next hW) hn (by omega) (by omega) hF.sets)
  obtain ⟨x0, x1, x2⟩ := hst.game.c3
  have o1 := i64_or_nat x y (by omega) (by omega)
  have sh := wrap_shl (k := m) (by omega)
  have hmin : min m 64 = m := by omega
  have hpl : pw m ≤ 512 := by have := pw_mono hm9; have h4 : pw 9 = 512 := rfl; omega
  have hpp := pw_pos m
  have hst' := Lib.hid hst
  have hbl := Lib.hid hst.below
  cases hh : hasOne R x
  · rw [hh] at HAS
    have hor : (x ||| y) < 512 := Nat.or_lt_two_pow (n := 9) hx hy
    by_cases hfr : frL m x y = []
    · have hw : Hid (win m R x y true = false) := Lib.hid (by rw [win_full _ hfr, hh])
      have ho : ((((x ||| y : Nat) : Int)) == ((pw m : Nat) : Int) - 1) = true := by rw [beq_iff_eq, (full_or hp).2 hfr]; omega
      have hkn := Lib.hid hst.kn
      rw [hw.out]
      clear hst hfr
      generalize x ||| y = o at *
      generalize pw m = pm at *
      go_enter Tryd.func46, Tryd.ntmps46
      go_wp2_with (go_at_call 50; refine (HAS.out _ hbl.out).mono ?_; rintro e w1 ⟨rfl, rfl⟩)
      go_ret
      exact ⟨rfl, Keep.refl _ _, hkn.out⟩
    · have ho : ((((x ||| y : Nat) : Int)) == ((pw m : Nat) : Int) - 1) = false := by
        rw [beq_eq_false_iff_ne]
        intro h
        exact hfr ((full_or hp).1 (by omega))
      obtain ⟨at', hat⟩ : ∃ at', kI m x y 1 = at' := ⟨_, rfl⟩
      have hlt := kI_lt hp.hw hp.hd (show 1 < 2 by omega)
      have hle := kN_le hm9
      rw [hat] at hlt
      have hxm : (x : Int) * 2 ^ m = ((x * pw m : Nat) : Int) := by rw [pw_int]; simp
      have hxb : x * pw m ≤ 524288 := by unfold kI at hat; omega
      have w1 : IntKind.i64.wrap ((x : Int) * 2 ^ m) = ((x * pw m : Nat) : Int) := by rw [hxm]; exact IntWalk.i64_in _ (by omega)
      have w2 : wrap64 ((x : Int) * 2 ^ m) = ((x * pw m : Nat) : Int) := by rw [hxm]; exact IntWalk.wrap64_in _ ⟨by omega, by omega⟩
      have hai : (((x * pw m : Nat) : Int) + (y : Int)) * 2 + 1 = ((at' : Nat) : Int) := by rw [← hat]; unfold kI; omega
      have hyp : y < pw m := hp.hd
      have hwe := win_eq m R x y true
      rw [hh] at hwe
      have hne : (frL m x y).isEmpty = false := by
        cases hl : frL m x y
        · exact absurd hl hfr
        · rfl
      rw [hne] at hwe
      simp only [Bool.false_or, Bool.not_false, Bool.true_and, Bool.false_eq_true, if_false, if_true] at hwe
      obtain ⟨f, hB, hf⟩ := hst.kn
      have z0 := hB.c at' (cN_get f (by omega))
      have P1 := Lib.hid (fun (f' : Nat → Int) (hf' : KnF m R f') W (hW : Blk W K 3 (cN m f')) (b : Bool) (hb : win m R x y true = b) => known_one hf' hat hp (show 1 < 2 by omega) hb hW)
      have P2 := Lib.hid (fun (f' : Nat → Int) (hf' : KnF m R f') W (hW : Blk W K 3 (cN m f')) (b : Bool) (hb : win m R x y true = b) (v : Int) => known_two hf' hat hp (show 1 < 2 by omega) hb hW v)
      have hkn := Lib.hid hst.kn
      rcases (show f (kI m x y 1) = 0 ∨ f (kI m x y 1) = wV (win m R x y true) from hf x y 1 hp (by omega)) with h0 | h0
      · -- it is not known yet
        rw [hat] at h0
        rw [h0] at z0
        have hwf : Hid ((∀ j, j < m → j ∈ frL m x y → win m R x (y + pw j) false = true) → win m R x y true = true) := Lib.hid (fun h => by
          rw [hwe]
          rw [List.all_eq_true]; intro j hj; exact h j (frL_mem.1 hj).1 hj)
        have hwt : Hid (∀ j, j ∈ frL m x y → win m R x (y + pw j) false = false → win m R x y true = false) := Lib.hid (fun j hj h => by
          rw [hwe]
          rw [Bool.eq_false_iff]; intro hc; have := List.all_eq_true.1 hc j hj; rw [h] at this; cases this)
        have ob := Lib.hid (fun k (hk : k < m) => or_bit (x := x) (y := y) hk)
        have sb := Lib.hid (fun k => bt_int (x ||| y) k)
        replace IH := Lib.hid IH
        have TF := Lib.hid (fun W (hW : StR m a n c R G K w0 W) w4 hK4 hN4 => tail_facts (at' := at') hW hlt w4 hK4 hN4)
        have hne' := Lib.hid hst.ne
        have hpl2 := Lib.hid (fun k (hk : k < m) => (show pw k ≤ 512 from Nat.le_trans (pw_mono (by omega)) hpl))
        clear hst hf hB hwe hne hfr hat h0
        generalize hqq : x * pw m = q at *
        replace hqq := Lib.hid hqq
        generalize hoo : x ||| y = o at *
        replace hoo := Lib.hid hoo
        generalize hpm : pw m = pm at *
        replace hpm := Lib.hid hpm
        generalize hkk : kN m = N at *
        replace hkk := Lib.hid hkk
        clear hqq
        go_enter Tryd.func46, Tryd.ntmps46
        go_wp2_with (go_at_call 50; refine (HAS.out _ hbl.out).mono ?_; rintro e w1 ⟨rfl, rfl⟩)
        go_loopw [11, 12] (fun v i wr => ∃ k : Nat, k ≤ m ∧ i = .int .i64 k ∧ v = .bool true ∧ Keep K w wr ∧ KnR m R K wr ∧ ∀ j, j < k → j ∈ frL m x y → win m R x (y + pw j) false = true) (fun _ i _ => m - (intOf i).toNat)
        case atStart => exact ⟨0, by omega, rfl, rfl, Keep.refl _ _, hkn.out, fun j hj => by omega⟩
        case round =>
          clear x0 x1 x2 z0
          obtain ⟨k, hk, rfl, rfl, hK, hN, hall⟩ := hrel
          replace hall := Lib.hid hall
          have hS := Lib.hid (hst'.out.step hK hN)
          obtain ⟨x0, x1, x2⟩ := hS.out.game.c3
          rw [hkk.out] at x2
          by_cases hlk : k < m
          · have hki : (k : Int) < (m : Int) := by omega
            have hsb := sb.out k
            rw [ob.out k hlk] at hsb
            by_cases hfk : k ∈ frL m x y
            · rw [if_pos hfk] at hsb
              have hbt : (((o : Int) / 2 ^ k).tmod 2 == 1) = false := by rw [hsb]; rfl
              have shk := wrap_shl (k := k) (by omega)
              have hmk : min k 64 = k := by omega
              have hpk := hpl2.out k hlk
              have IHk := Lib.hid (IH.out k hfk wr hS.out)
              obtain ⟨b, hb⟩ : ∃ b, win m R x (y + pw k) false = b := ⟨_, rfl⟩
              rw [hb] at IHk
              clear hsb
              have hfk' := Lib.hid hfk
              clear hfk
              generalize hpkk : pw k = pk at *
              replace hpkk := Lib.hid hpkk
              cases b
              · replace hb := Lib.hid hb
                have hres := Lib.hid (hwt.out k hfk'.out (by rw [hpkk.out]; exact hb.out))
                go_wp2_with (go_at_call 46; refine IHk.out.mono ?_; rintro e w4 ⟨rfl, hK4, hN4⟩; obtain ⟨f4, hf4, hB4, q0, q2, q3, q4, r2, r3, r4⟩ := TF.out wr hS.out w4 hK4 hN4; replace hN4 := Lib.hid hN4)
                go_ret
                exact ⟨by rw [hres.out]; rfl, (hK.trans hK4).trans (Keep.set K at' _ _), P1.out f4 hf4.out _ hB4.out false hres.out⟩
              · replace hb := Lib.hid hb
                go_wp2_with (go_at_call 46; refine IHk.out.mono ?_; rintro e w4 ⟨rfl, hK4, hN4⟩)
                go_roundw
                case rel => exact ⟨k + 1, by omega, by go_num, rfl, hK.trans hK4, hN4, fun j hj hm2 => (by
                  by_cases hjk : j = k
                  · subst hjk; rw [hpkk.out]; exact hb.out
                  · exact hall.out j (by omega) hm2)⟩
                case measure => simp [intOf]; omega
            · rw [if_neg hfk] at hsb
              have hbt : (((o : Int) / 2 ^ k).tmod 2 == 1) = true := by rw [hsb]; rfl
              have hfk' := Lib.hid hfk
              clear hsb hfk
              go_wp2
              go_roundw
              case rel => exact ⟨k + 1, by omega, by go_num, rfl, hK, hN, fun j hj hm2 => (by
                by_cases hjk : j = k
                · subst hjk; exact absurd hm2 hfk'.out
                · exact hall.out j (by omega) hm2)⟩
              case measure => simp [intOf]; omega
          · have hkm : k = m := by omega
            have hki : ¬ ((k : Int) < (m : Int)) := by omega
            have hres := Lib.hid (hwf.out (fun j hj h2 => hall.out j (by omega) h2))
            obtain ⟨f4, hf4, hB4, q0, q2, q3, q4, r2, r3, r4⟩ := TF.out wr hS.out wr (Keep.refl _ _) hN
            replace hN := Lib.hid hN
            clear x0 x1 x2
            obtain ⟨x0, x1, x2⟩ := hS.out.game.c3
            rw [hkk.out] at x2
            go_wp2
            go_ret
            exact ⟨by rw [hres.out]; rfl, ((hK).trans (Keep.set K at' _ _)).trans (Keep.set K at' _ _), P2.out f4 hf4.out _ hB4.out true hres.out (-1)⟩
      · -- it is known
        rw [hat] at h0
        rw [h0] at z0
        clear IH hst hf hB hwe hne hfr hat P1 P2
        generalize x * pw m = q at *
        generalize x ||| y = o at *
        generalize pw m = pm at *
        generalize kN m = N at *
        cases hres : win m R x y true
        all_goals
          rw [hres] at z0 h0
          unfold wV at z0
          simp only [Bool.false_eq_true, if_false, if_true] at z0
          replace h0 := Lib.hid h0
          replace hres := Lib.hid hres
          go_enter Tryd.func46, Tryd.ntmps46
          go_wp2_with (go_at_call 50; refine (HAS.out _ hbl.out).mono ?_; rintro e w1 ⟨rfl, rfl⟩)
          go_ret
          exact ⟨rfl, Keep.refl _ _, hkn.out⟩
  · rw [hh] at HAS
    have hw : Hid (win m R x y true = true) := Lib.hid (win_has _ _ hh)
    have hkn := Lib.hid hst.kn
    rw [hw.out]
    clear hst
    generalize pw m = pm at *
    go_enter Tryd.func46, Tryd.ntmps46
    go_wp2_with (go_at_call 50; refine (HAS.out _ hbl.out).mono ?_; rintro e w1 ⟨rfl, rfl⟩)
    go_ret
    exact ⟨rfl, Keep.refl _ _, hkn.out⟩
end
end Go.Proofs.YtbdhceolchhnjaaDoor
