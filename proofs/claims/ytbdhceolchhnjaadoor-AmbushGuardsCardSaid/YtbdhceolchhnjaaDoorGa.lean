/- Layer 4: slices.DeleteFunc, over any closure and any invariant. -/
import Derived.Test.YtbdhceolchhnjaaDoorAm
import Derived.Lib.SliceRun
import Derived.Lib.LazyBuf
namespace Go.Proofs.YtbdhceolchhnjaaDoor
open Go Go.RowKit

section
variable {w : World} {base : Nat} {e : TypeId} {size : Nat} {g n cap : Nat} {xs : List Value}
theorem own_cells : ∀ (vs : List Value) (o : Nat) (xs : List Value) (w : World), w.ownsRow base e size (.slice (some ⟨g, 0, none⟩) n cap) n xs → (∃ ys : List Value, (w.setCells g o vs).ownsRow base e size (.slice (some ⟨g, 0, none⟩) n cap) n ys ∧ ∀ t, t < o → ys[t]? = xs[t]?) ∧ w.grownBy (w.setCells g o vs) (some g) := by
  intro vs
  induction vs with
  | nil => intro o xs w h; exact ⟨⟨xs, h, fun _ _ => rfl⟩, rfl, rfl, rfl, Nat.le_refl _, fun _ _ _ => rfl⟩
  | cons v vs ih =>
    intro o xs w h
    obtain ⟨h1, h2⟩ := h.stored o v
    obtain ⟨⟨ys, h3, h5⟩, h4⟩ := ih (o + 1) _ _ h1
    exact ⟨⟨ys, h3, fun t ht => by rw [h5 t (by omega), List.getElem?_set, if_neg (by omega)]⟩, h4.os.trans h2.os, h4.tape.trans h2.tape, h4.output.trans h2.output, Nat.le_trans h2.size h4.size, fun k hk hne => (h4.block k (Nat.lt_of_lt_of_le hk h2.size) hne).trans (h2.block k hk hne)⟩
theorem own_some (h : w.ownsRow base e size (.slice (some ⟨g, 0, none⟩) n cap) n xs) (j : Nat) (hj : j < n * size) : (w.cell? ⟨g, j, none⟩).isSome = true := by
  rw [h.cellAt j hj, List.getElem?_eq_getElem (by rw [h.1]; exact hj)]; rfl
theorem own_room (h : w.ownsRow base e size (.slice (some ⟨g, 0, none⟩) n cap) n xs) : n ≤ cap ∧ cap ≤ maxLen := by
  rcases h.2 with ⟨h', _⟩ | ⟨g', cap', cur, h', hb, hg, hnc, hcm, hcs, htake⟩
  · simp at h'
  · simp only [Value.slice.injEq, Option.some.injEq, Addr.mk.injEq, and_true, true_and] at h'
    obtain ⟨rfl, rfl⟩ := h'
    exact ⟨hnc, hcm⟩
end
theorem zeroN : ∀ w, (zeroValue 3).run Tryd.prog w = .ok (.int .i64 0) w := fun _ => by kernel_rfl
/-- The row of the list. -/
abbrev rowG (w : World) (base g n cap : Nat) (X : List Value) : Prop := w.ownsRow base 3 1 (.slice (some ⟨g, 0, none⟩) n cap) n X
/-- What is kept of the first j. -/
def kpF (q : Nat → Bool) (l : List Nat) (j : Nat) : List Nat := (l.take j).filter q
theorem kpF_next {q : Nat → Bool} {l : List Nat} {j : Nat} (h : j < l.length) : kpF q l (j + 1) = if q (l.getD j 0) = true then kpF q l j ++ [l.getD j 0] else kpF q l j := by
  unfold kpF
  rw [List.take_succ_eq_append_getElem h, List.filter_append]
  have : l.getD j 0 = l[j] := by simp [h]
  rw [this]
  cases hq : q l[j] <;> simp [hq]
theorem kpF_le (q : Nat → Bool) (l : List Nat) (j : Nat) : (kpF q l j).length ≤ j := by
  have h1 := List.length_filter_le q (l.take j)
  have h2 := List.length_take_le j l
  unfold kpF
  omega
theorem kpF_all {q : Nat → Bool} {l : List Nat} : ∀ j, j ≤ l.length → (∀ t, t < j → q (l.getD t 0) = true) → kpF q l j = l.take j := by
  intro j hj h
  unfold kpF
  rw [List.filter_eq_self]
  intro x hx
  obtain ⟨i, hi, rfl⟩ := List.getElem_of_mem hx
  have hi2 : i < j := by rw [List.length_take] at hi; omega
  have hil : i < l.length := by omega
  have := h i hi2
  simpa [hil] using this
set_option maxRecDepth 100000 in
set_option maxHeartbeats 4000000 in
theorem deleteF_any (fn : FuncId) (caps : Array Value) (I : World → Prop) (q : Nat → Bool) (l : List Nat) (base g n cap : Nat) (w : World) (h0 : I w) (hown : rowG w base g n cap (lI (lNi l))) (hl : l.length = n) (hm : n ≤ 100)
    (HE : ∀ args W, (callFunc fn args).run Tryd.prog W = .ok (.enter fn args) W)
    (HG : ∀ W W', I W → W.grownBy W' (some g) → I W')
    (H : ∀ W, I W → ∀ i ∈ l, Calls Tryd.prog fn (#[.int .i64 (i : Nat)] ++ caps) W (fun e w' => e = .returned (.bool (!q i)) ∧ I w' ∧ ∀ X, rowG W base g n cap X → rowG w' base g n cap X)) :
    Calls Tryd.prog 82 #[.slice (some ⟨g, 0, none⟩) n cap, .func (.func fn) #[] caps] w (fun e w' => ∃ k : Nat, e = .returned (.slice (some ⟨g, 0, none⟩) k cap) ∧ k = (l.filter q).length ∧ k ≤ n ∧ I w' ∧ ∃ X, rowG w' base g n cap X ∧ ∀ t, t < k → X[t]? = some (.int .i64 (((l.filter q).getD t 0 : Nat) : Int))) := by
  obtain ⟨f, hf⟩ : ∃ f : Nat → Nat, Hid (∀ i, l.getD i 0 = f i) := ⟨fun i => l.getD i 0, Lib.hid fun _ => rfl⟩
  have hfl : Hid (∀ i, i < n → f i ∈ l) := Lib.hid (fun i hi => by
    rw [← hf.out]
    have hil : i < l.length := by omega
    simp [hil])
  have hX0 : Hid (∀ t, t < n → (lI (lNi l))[t]? = some (.int .i64 ((f t : Nat) : Int))) := Lib.hid (fun t ht => by
    have hll := lNi_len l
    rw [lI_get (by omega), lNi_nth (by omega), hf.out])
  have IX := indexF_any fn caps (fun W => I W ∧ rowG W base g n cap (lI (lNi l))) (fun i => !q (f i)) (fun i => .int .i64 ((f i : Nat) : Int)) (some ⟨g, 0, none⟩) n cap w ⟨h0, hown⟩ HE (by omega)
    (fun _ => ⟨g, 0, rfl, fun W hW i hi => by rw [Nat.zero_add, hW.2.cellAt i (by omega)]; exact hX0.out i hi⟩)
    (fun W hW i hi _ => (H W hW.1 (f i) (hfl.out i hi)).mono fun e w' h => ⟨h.1, h.2.1, h.2.2 _ hW.2⟩)
  have KN := Lib.hid (fun j (h : j < n) => (hf.out j) ▸ kpF_next (q := q) (l := l) (j := j) (by omega))
  have KL := Lib.hid (kpF_le q l)
  have KA := Lib.hid (fun j (hj : j ≤ n) (h : ∀ t, t < j → q (f t) = true) => kpF_all (q := q) (l := l) j (by omega) (fun t ht => by rw [hf.out]; exact h t ht))
  have KE : Hid (kpF q l n = l.filter q) := Lib.hid (by unfold kpF; rw [List.take_of_length_le (by omega)])
  have KT : Hid (∀ j, j ≤ n → (l.take j).length = j) := Lib.hid (fun j hj => by rw [List.length_take]; omega)
  have KG : Hid (∀ j t, t < j → (l.take j).getD t 0 = f t) := Lib.hid (fun j t ht => by rw [← hf.out, List.getD_eq_getElem?_getD, List.getD_eq_getElem?_getD, List.getElem?_take, if_pos ht])
  rw [← KE.out]
  obtain ⟨hcap, hcm⟩ := own_room hown
  unfold maxLen at hcm
  replace IX := Lib.hid IX
  replace H := Lib.hid H
  replace HG := Lib.hid HG
  clear hown h0
  go_enter Tryd.func82, Tryd.ntmps82
  go_wp2_with (go_at_call 75; refine IX.out.mono ?_; rintro e w1 ⟨r, rfl, hr, hI1, hrow⟩; replace hI1 := Lib.hid hI1; replace hrow := Lib.hid hrow; rcases hr with ⟨rfl, hall⟩ | ⟨i0, rfl, hi0, hp0, hno⟩)
  · have ha := KA.out n (Nat.le_refl _) (fun t ht => by have := hall t ht; simpa using this)
    replace hall := Lib.hid hall
    go_ret
    refine ⟨n, rfl, by rw [ha, KT.out n (Nat.le_refl _)], Nat.le_refl _, hI1.out, _, hrow.out, fun t ht => ?_⟩
    rw [ha, KG.out n t ht]
    exact hX0.out t ht
  · have ha := KA.out i0 (by omega) (fun t ht => by have := hno t ht; simpa using this)
    have hb := KN.out i0 hi0
    have hq0 : q (f i0) = false := by simpa using hp0
    rw [hq0] at hb
    simp only [Bool.false_eq_true, if_false] at hb
    rw [ha] at hb
    replace hno := Lib.hid hno
    replace ha := Lib.hid ha
    have hk0 := KT.out i0 (by omega)
    have hg0 := KG.out i0
    replace hb := Lib.hid hb
    have hi1 : ((i0 : Int) == -1) = false := by rw [beq_eq_false_iff_ne]; omega
    try go_wp2
    try simp only [hi1]
    go_loopw [5, 6] (fun vi vj wr => ∃ (j : Nat) (X : List Value), 0 < j ∧ j ≤ n ∧ vj = .int .i64 j ∧ vi = .int .i64 ((kpF q l j).length : Nat) ∧ (kpF q l j).length < j ∧ I wr ∧ rowG wr base g n cap X ∧ (∀ t, t < (kpF q l j).length → X[t]? = some (.int .i64 (((kpF q l j).getD t 0 : Nat) : Int))) ∧ (∀ t, j ≤ t → t < n → X[t]? = some (.int .i64 ((f t : Nat) : Int)))) (fun _ j _ => n - (intOf j).toNat)
    case atStart =>
      refine ⟨i0 + 1, _, by omega, by omega, by go_num, by rw [hb.out, hk0], by rw [hb.out, hk0]; omega, hI1.out, hrow.out, fun t ht => ?_, fun t _ ht => hX0.out t ht⟩
      rw [hb.out] at ht ⊢
      rw [hk0] at ht
      rw [hg0 t ht]
      exact hX0.out t (by omega)
    case round =>
      obtain ⟨j, X, hj0, hj, rfl, rfl, hkj, hI, hro, hX1, hX2⟩ := hrel
      have hkl := KL.out j
      by_cases hlt : j < n
      · have hji : (j : Int) < (n : Int) := by omega
        have x0 : wr.cell? ⟨g, j, none⟩ = some (.int .i64 ((f j : Nat) : Int)) := by rw [hro.cellAt j (by omega)]; exact hX2 j (Nat.le_refl _) hlt
        have hn1 := KN.out j hlt
        have C := H.out wr hI (f j) (hfl.out j hlt)
        cases hq : q (f j)
        · rw [hq] at hn1 C
          simp only [Bool.false_eq_true, if_false] at hn1
          replace hn1 := Lib.hid hn1
          replace hq := Lib.hid hq
          replace C := Lib.hid C
          replace hX1 := Lib.hid hX1
          replace hX2 := Lib.hid hX2
          replace hro := Lib.hid hro
          replace hI := Lib.hid hI
          generalize hkk : (kpF q l j).length = kk at *
          replace hkk := Lib.hid hkk
          generalize f j = y at *
          go_wp2_with (first | (refine C.out.mono ?_; rintro e w2 ⟨rfl, hI2, hro2⟩; replace hI2 := Lib.hid hI2; replace hro2 := Lib.hid (hro2 _ hro.out)))
          go_roundw
          case rel => exact ⟨j + 1, X, by omega, by omega, by go_num, by rw [hn1.out, hkk.out], by rw [hn1.out, hkk.out]; omega, hI2.out, hro2.out, by rw [hn1.out]; rw [hkk.out]; exact hX1.out, fun t h1 h2 => hX2.out t (by omega) h2⟩
          case measure => simp [intOf]; omega
        · rw [hq] at hn1 C
          simp only [if_true] at hn1
          replace hq := Lib.hid hq
          replace C := Lib.hid C
          replace hX1 := Lib.hid hX1
          replace hX2 := Lib.hid hX2
          replace hro := Lib.hid hro
          replace hI := Lib.hid hI
          have hn2 : Hid ((kpF q l (j + 1)).length = (kpF q l j).length + 1) := Lib.hid (by rw [hn1]; simp)
          replace hn1 := Lib.hid hn1
          generalize hkk : (kpF q l j).length = kk at *
          replace hkk := Lib.hid hkk
          generalize hy : f j = y at *
          replace hy := Lib.hid hy
          have hki : (kk : Int) < (n : Int) := by omega
          have hXk : kk < X.length := by have := hro.out.1; omega
          go_wp2_with (first | (refine C.out.mono ?_; rintro e w2 ⟨rfl, hI2, hro2⟩; replace hI2 := Lib.hid hI2; replace hro2 := Lib.hid (hro2 _ hro.out); obtain ⟨z0, hz0⟩ := Option.isSome_iff_exists.1 (own_some hro2.out kk (by omega)); have fz := hro2.out.frozenAt kk; have hst := hro2.out.stored kk (.int .i64 ((y : Nat) : Int)); replace hst := Lib.hid hst))
          go_roundw
          case rel => exact ⟨j + 1, _, by omega, by omega, by go_num, by rw [hn2.out]; go_num, by rw [hn2.out]; omega, HG.out _ _ hI2.out hst.out.2, hst.out.1, fun t ht => (by
            rw [hn2.out] at ht
            rw [hn1.out, List.getElem?_set]
            by_cases e : kk = t
            · subst e
              rw [if_pos rfl, if_pos hXk, List.getD_eq_getElem?_getD, List.getElem?_append_right (by rw [hkk.out]; omega), hkk.out, Nat.sub_self]
              rfl
            · rw [if_neg e, hX1.out t (by omega), List.getD_eq_getElem?_getD, List.getD_eq_getElem?_getD, List.getElem?_append_left (by rw [hkk.out]; omega)]), fun t h1 h2 => (by
            have := hX2.out t (by omega) h2
            rw [List.getElem?_set, if_neg (by omega)]
            exact this)⟩
          case measure => simp [intOf]; omega
      · obtain rfl : j = n := by omega
        have hX3 := Lib.hid hX1
        generalize hkk : (kpF q l j).length = kk at *
        have hXl := hro.1
        have hcl : ∀ ty, (Builtin.clear_ #[22] ty #[.slice (some ⟨g, kk, none⟩) (j - kk) (cap - kk)]).run Tryd.prog wr = .ok (.tuple #[]) (wr.setCells g kk (List.replicate (j - kk) (.int .i64 0))) :=
          fun ty => Lib.run_clear_slice wr _ _ ty _ Tryd.underlying22 zeroN rfl rfl g kk _ _ (by omega) (fun t ht => own_some hro _ (by omega)) (fun t ht => hro.frozenAt _)
        obtain ⟨⟨ys, h3, h5⟩, h4⟩ := own_cells (List.replicate (j - kk) (.int .i64 0)) kk X wr hro
        have hIe := HG.out _ _ hI h4
        have hce : ¬ (cap = kk) := by omega
        have hkc : kk ≤ cap := by omega
        have hkn : kk ≤ j := by omega
        have hkn2 : (kk : Int) ≤ (j : Int) := by omega
        have hkn3 : (kk : Int) ≤ (cap : Int) := by omega
        replace h3 := Lib.hid h3
        replace h4 := Lib.hid h4
        replace h5 := Lib.hid h5
        replace hIe := Lib.hid hIe
        replace hkk := Lib.hid hkk
        replace hX1 := Lib.hid hX1
        replace hX2 := Lib.hid hX2
        replace hro := Lib.hid hro
        replace hI := Lib.hid hI
        generalize wr.setCells g kk (List.replicate (j - kk) (.int .i64 0)) = we at *
        go_wp2
        go_ret
        exact ⟨kk, rfl, hkk.out.symm, hkn, hIe.out, ys, h3.out, fun t ht => (h5.out t ht).trans (hX1.out t ht)⟩
end Go.Proofs.YtbdhceolchhnjaaDoor
