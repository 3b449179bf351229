/- Layer 5, by the program: build. -/
import Derived.Test.YtfdaljekehkkaaaGreatDoorEd
namespace Go.Proofs.YtfdaljekehkkaaaGreatDoor
open Go Go.RowKit

/-- What build returns. -/
def BuildR (o : Option Tr) (w : World) (e : Ending) (w' : World) : Prop := ∃ v, e = .returned (.tuple #[v, .bool o.isSome]) ∧ (∀ t, o = some t → TreeV (fun b => w.heap.size ≤ b) w' t v) ∧ Below w.heap.size w w'
theorem allO_cut {α β : Type} {f : α → Option β} {xs : List α} {i : Nat} (h : i < xs.length) (hf : f xs[i] = none) : allO f xs = none := by
  cases ha : allO f xs with
  | none => rfl
  | some ys =>
    obtain ⟨e1, e2⟩ := allO_some.1 ha
    have := e2 i h (by omega)
    rw [hf] at this; cases this
set_option maxRecDepth 100000 in
set_option maxHeartbeats 4000000 in
theorem build_any (a : Option Addr) (l c : Nat) (L : List T3) (hl : L.length = l) (hl9 : l ≤ 1000) (hok : ∀ t ∈ L, OkT t) :
    ∀ f s w, s < f → 0 < s → s < 512 → Trips w a L → Tab w → Calls Tryz.prog 28 #[.slice a l c, .int .i64 (s : Nat)] w (BuildR (buildT L f s) w) := by
  intro f
  induction f with
  | zero => intro s w h; omega
  | succ f ih =>
    intro s w hsf h0 hs hTr hT
    have CN := Lib.hid (fun W => count_any s hs W)
    rw [buildT]
    by_cases h1 : cntF s 9 = 1
    · rw [if_pos h1]
      have LE := Lib.hid (least_any s hs h0 w hT)
      have hb := (cnt_one s hs h1).2
      rw [h1] at CN
      clear ih hTr hT h1
      generalize lowB s = b at *
      go_enter Tryz.func28, Tryz.ntmps28
      go_wp2_with (first
        | (go_at_call 30; refine (CN.out _).mono ?_; rintro e w1 ⟨rfl, rfl⟩)
        | (go_at_call 45; refine LE.out.mono ?_; rintro e w1 ⟨rfl, rfl⟩))
      go_ret2
      exact ⟨_, rfl, fun t ht => by cases ht; exact ⟨rfl, hb⟩, Below.refl _ _⟩
    · rw [if_neg h1]
      have hc1 : (((cntF s 9 : Nat) : Int) == 1) = false := by rw [beq_eq_false_iff_ne]; omega
      have hcle := cntF_le s 9
      have J := Lib.hid (joined_any a l c s L w hTr hl hl9 hok hs h0 hT)
      have hP := parts_part hs L
      have hpl : (partsL L s).length ≤ 9 := by
        unfold partsL sortN
        rw [List.length_mergeSort]
        exact join_len hs L
      have hne : 0 < (partsL L s).length := by
        refine Nat.pos_of_ne_zero fun hz => ?_
        obtain ⟨i, hi⟩ := ex_bit (show s ≠ 0 by omega)
        obtain ⟨p, hp, _⟩ := (hP.all i).1 hi
        rw [List.length_eq_zero_iff.1 hz] at hp
        cases hp
      obtain ⟨ps, hps⟩ : ∃ ps, Hid (partsL L s = ps) := ⟨_, Lib.hid rfl⟩
      rw [hps.out] at J hP hpl hne
      rw [hps.out]
      replace hP := Lib.hid hP
      replace hTr := Lib.hid hTr
      replace hT := Lib.hid hT
      replace hok := Lib.hid hok
      replace hl := Lib.hid hl
      replace ih := Lib.hid ih
      replace h1 := Lib.hid h1
      obtain ⟨n, hn⟩ : ∃ n, Hid (ps.length = n) := ⟨_, Lib.hid rfl⟩
      rw [hn.out] at hpl hne
      rw [hn.out]
      generalize cntF s 9 = cn at *
      by_cases h2 : n = 1
      · rw [if_pos h2]
        go_enter Tryz.func28, Tryz.ntmps28
        go_wp2_with (first
          | (go_at_call 30; refine (CN.out _).mono ?_; rintro e w1 ⟨rfl, rfl⟩)
          | (go_at_call 31; refine J.out.mono ?_; rintro e w1 ⟨v1, rfl, ho1, hb1⟩; rw [hn.out] at ho1; obtain ⟨g1, c1, rfl⟩ := own_pos ho1 hne; subst h2; clear ho1))
        go_ret2
        exact ⟨_, rfl, (fun t ht => by cases ht), hb1⟩
      · rw [if_neg h2]
        have h2I : ((n : Int) == 1) = false := by rw [beq_eq_false_iff_ne]; omega
        obtain ⟨i0, hi, hz0, hz1, hz2⟩ := info_parts infoTree
        have G0 := Lib.hid hi
        have G1 := Lib.hid hz0
        have G2 := Lib.hid hz1
        have G3 := Lib.hid hz2
        clear hi hz0 hz1 hz2
        obtain ⟨o, ho⟩ : ∃ o, Hid ((allO (buildT L f) ps).map joinT = o) := ⟨_, Lib.hid rfl⟩
        rw [ho.out]
        go_enter Tryz.func28, Tryz.ntmps28
        go_wp2_with (first
          | (go_at_call 30; refine (CN.out _).mono ?_; rintro e w1 ⟨rfl, rfl⟩)
          | (go_at_call 31; refine J.out.mono ?_; rintro e w1 ⟨v1, rfl, ho1, hb1⟩; rw [hn.out] at ho1; obtain ⟨a1, c1, rfl, hc1, hSt⟩ := own_sets ho1 hn.out; clear ho1; replace hSt := Lib.hid hSt; replace hb1 := Lib.hid hb1))
        go_loopw [7, 26] (fun v i wr => ∃ k : Nat, ∃ ts : List Tr, k ≤ n ∧ i = .int .i64 k ∧ Hid (ts.length = k ∧ ∀ j (h1 : j < ps.length) (h2 : j < ts.length), buildT L f ps[j] = some ts[j]) ∧ TreesRow w1.heap.size wr v ts ∧ Below w1.heap.size w1 wr) (fun _ i _ => n - (intOf i).toNat)
        case atStart => exact ⟨0, [], Nat.zero_le _, rfl, Lib.hid ⟨rfl, fun j _ h => by simp at h⟩, TreesRow.nil _ _, Below.refl _ _⟩
        case round =>
          obtain ⟨k, ts, hk, rfl, hts, hR, B0⟩ := hrel
          by_cases hlt : k < n
          · have hkl : k < ps.length := by rw [hn.out]; exact hlt
            obtain ⟨b, off, rfl, hc⟩ := sets_at (hSt.out.next B0) (by omega)
            have x0 := hc k hkl
            have hpe : ps.getD k 0 = ps[k] := by rw [List.getD_eq_getElem?_getD, List.getElem?_eq_getElem hkl]; rfl
            rw [hpe] at x0
            have hmem := List.getElem_mem hkl
            have hp9 : ps[k] < s := hP.out.lt (by rw [hn.out]; omega) hmem
            have hp0 : 0 < ps[k] := Nat.pos_of_ne_zero (hP.out.some _ hmem)
            have hki : (k : Int) < (n : Int) := by omega
            have C := ih.out ps[k] wr (by omega) hp0 (by omega) (hTr.out.next (nextB hb1.out B0)) (hT.out.next (nextB hb1.out B0))
            have CUT := Lib.hid (fun h => allO_cut (f := buildT L f) (xs := ps) (i := k) hkl h)
            have STEP := Lib.hid (fun t (h : buildT L f ps[k] = some t) => h)
            clear hc
            replace hpe := Lib.hid hpe
            obtain ⟨r, hr⟩ : ∃ r, Hid (buildT L f ps[k] = r) := ⟨_, Lib.hid rfl⟩
            rw [hr.out] at C CUT STEP
            obtain ⟨p0, hpk⟩ : ∃ p, Hid (ps[k] = p) := ⟨_, Lib.hid rfl⟩
            rw [hpk.out] at C x0 hp9 hp0
            clear STEP hmem
            cases r with
            | none =>
              replace C := Lib.hid C
              replace hR := Lib.hid hR
              go_wp2_with (go_at_call 28; (with_reducible refine C.out.mono ?_); rintro e w2 ⟨x, rfl, _, hb2⟩)
              go_ret2
              have ho' : o = none := by rw [← ho.out, CUT.out trivial]; rfl
              subst ho'
              exact ⟨_, rfl, (fun t ht => by cases ht), nextB (nextB hb1.out B0) hb2⟩
            | some t =>
              replace C := Lib.hid C
              obtain ⟨vs, hvl, hown, hTs⟩ := hR
              rw [hts.out.1] at hown
              have hlt2 := Lib.hid hown.lt
              replace hTs := Lib.hid hTs
              go_wp2_with (first
                | (go_at_call 28; (with_reducible refine C.out.mono ?_); rintro e w2 ⟨x, rfl, hx, hb2⟩; replace hx := Lib.hid (hx t rfl); have hown2 := owns_next hown hb2; obtain ⟨ty, pay, rfl⟩ := hx.out.shape)
                | (at_builtin; refine wpList_append_ownX _ rfl _ _ 81 rfl w1.heap.size 57 i0 .nilIface 1 16 Tryz.underlying81 G0.out G1.out G2.out G3.out rfl (by decide) _ _ _ rfl (hown2.alloc _) ⟨_, 0, none⟩ 1 1 [.iface ty pay] rfl rfl (by decide) (cell_new _ _ _) (by simp [Value.oneCell']) (by unfold maxLen; omega) (by omega) (by have := B0.size; have := hb2.size; simp; omega) ?_; intro v' w3 hown3 hgrow hfr))
              have hs1 := B0.size
              have hs2 := hb2.size
              have bA := (nextB B0 hb2).alloc (by omega) (.cells #[.iface ty pay] 57)
              have B2 := bA.grown hgrow (by simp; omega) (fun q hq => by have := (hlt2.out q hq).1; omega)
              have hb3 := hb2.alloc hs2 (.cells #[.iface ty pay] 57)
              have hR2 := Lib.hid (TreesRow.snoc (ks := ts) (t := t) hvl (fun i hi => (hTs.out i hi).next hb3) (TreeV.frame (A' := fun b => w1.heap.size ≤ b ∧ _ ≠ some b) (fun b hb hlt3 => ⟨⟨by omega, fun e => by have := (hlt2.out b e).2; omega⟩, (b1 w2 (.cells #[.iface ty pay] 57)).block b hlt3⟩) _ _ hx.out) (by rw [hts.out.1]; exact hown3) hgrow hfr)
              go_roundw
              case rel => exact ⟨k + 1, ts ++ [t], by omega, by go_num, Lib.hid ⟨by rw [List.length_append, hts.out.1]; rfl, fun j h1 h2 => (by
                by_cases hj : j < ts.length
                · rw [List.getElem_append_left hj]; exact hts.out.2 j h1 hj
                · have hjk : j = ts.length := by simp at h2; omega
                  subst hjk
                  rw [List.getElem_append_right (by omega)]
                  simp only [Nat.sub_self, List.getElem_cons_zero]
                  have e := hts.out.1
                  simp only [e]
                  exact hr.out)⟩, hR2.out, B2⟩
              case measure => simp [intOf]; omega
          · obtain rfl : k = n := by omega
            have he : ts.map Tr.set = ps := by
              apply List.ext_getElem (by rw [List.length_map, hts.out.1, hn.out])
              intro i h1 h2
              rw [List.getElem_map]
              have hm := List.getElem_mem h2
              exact buildT_set L f _ _ (Nat.lt_of_le_of_lt (inB_le (hP.out.sub hm)) hs) (Nat.pos_of_ne_zero (hP.out.some _ hm)) (hts.out.2 i h2 (by simpa using h1))
            obtain ⟨q1, q2, q3⟩ := parts_good hs hP.out he
            have ho' : o = some (joinT ts) := by
              rw [← ho.out, allO_some.2 ⟨by rw [hts.out.1, hn.out], fun i h1 h2 => hts.out.2 i h1 h2⟩]; rfl
            subst ho'
            have K := Lib.hid (join_any w1.heap.size _ ts k wr hR hts.out.1 hne (by omega) q1 q2 B0.size (fun W hW => hT.out.next (nextB hb1.out (B0.trans hW))))
            have hs1 := hb1.out.size
            clear hR q1 q2 q3 he
            go_wp2_with (go_at_call 46; (with_reducible refine K.out.mono ?_); rintro e w2 ⟨x, rfl, hx, hb2⟩; replace hx := Lib.hid hx)
            go_ret2
            exact ⟨_, rfl, fun t ht => by cases ht; exact hx.out.mono fun b hb _ => Nat.le_trans hs1 hb, hb1.out.trans ((B0.trans hb2).mono hs1)⟩
end Go.Proofs.YtfdaljekehkkaaaGreatDoor
