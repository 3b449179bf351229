/- Layer 5, by the program: are trees parts of a family? -/
import Derived.Test.YtfdaljekehkkaaaGreatDoorGa
import Derived.Test.YtfdaljekehkkaaaGreatDoorEd
namespace Go.Proofs.YtfdaljekehkkaaaGreatDoor
open Go Go.RowKit

/-- Trees are two or more, and in their order. -/
def PartsP (ks : List Tr) : Prop := 2 ≤ ks.length ∧ (ks.map Tr.set).Pairwise Behind
/-- The answer is whether P. -/
def Tells (P : Prop) (w : World) (e : Ending) (w' : World) : Prop := ∃ b : Bool, e = .returned (.bool b) ∧ (b = true ↔ P) ∧ Below w.heap.size w w'
theorem behind_succ {ks : List Tr} {k : Nat} (h : k < ks.length) (hp : ((ks.take k).map Tr.set).Pairwise Behind) (h1 : ks[k].set &&& setL (ks.take k) = 0) (h2 : ∀ (h0 : 0 < k), ¬ lowB ks[k].set < lowB ks[k - 1].set)
    (hb : ∀ t ∈ ks, t.set < 512 ∧ t.set ≠ 0) : ((ks.take (k + 1)).map Tr.set).Pairwise Behind := by
  rw [List.take_succ_eq_append_getElem h, List.map_append, List.pairwise_append]
  refine ⟨hp, by simp, fun a ha b hb' => ?_⟩
  simp only [List.map_cons, List.map_nil, List.mem_singleton] at hb'
  subst hb'
  obtain ⟨t, ht, rfl⟩ := List.mem_map.1 ha
  obtain ⟨j, hj, rfl⟩ := List.mem_iff_getElem.1 ht
  rw [List.length_take] at hj
  rw [List.getElem_take]
  have hz : ks[j].set &&& ks[k].set = 0 := by
    rw [Nat.and_comm, and_zero]
    intro i hi
    have := and_zero.1 h1 i hi
    rw [setL_test, List.any_eq_false] at this
    have hm : ks[j] ∈ ks.take k := by
      rw [List.mem_iff_getElem]
      exact ⟨j, by rw [List.length_take]; omega, by rw [List.getElem_take]⟩
    simpa using this _ hm
  refine ⟨hz, ?_⟩
  have hne := low_ne (hb _ (List.getElem_mem (n := j) (by omega))).1 (hb _ (List.getElem_mem (n := j) (by omega))).2 (hb _ (List.getElem_mem h)).1 (hb _ (List.getElem_mem h)).2 hz
  have hk := h2 (by omega)
  have hle : lowB ks[j].set ≤ lowB ks[k - 1].set := by
    by_cases e : j = k - 1
    · subst e; exact Nat.le_refl _
    · rw [List.pairwise_iff_getElem] at hp
      have := (hp j (k - 1) (by simp; omega) (by simp; omega) (by omega)).2
      simp only [List.getElem_map, List.getElem_take] at this
      omega
  omega
theorem behind_no1 {ks : List Tr} {k : Nat} (h : k < ks.length) (h1 : ks[k].set &&& setL (ks.take k) ≠ 0) : ¬ (ks.map Tr.set).Pairwise Behind := by
  intro hp
  obtain ⟨i, hi⟩ := ex_bit h1
  rw [Nat.testBit_and, Bool.and_eq_true, setL_test, List.any_eq_true] at hi
  obtain ⟨h3, t, ht, hti⟩ := hi
  obtain ⟨j, hj, rfl⟩ := List.mem_iff_getElem.1 ht
  rw [List.length_take] at hj
  rw [List.getElem_take] at hti
  rw [List.pairwise_iff_getElem] at hp
  have := (hp j k (by simp; omega) (by simpa using h) (by omega)).1
  simp only [List.getElem_map] at this
  have := and_zero.1 this i hti
  rw [h3] at this; cases this
theorem behind_no2 {ks : List Tr} {k : Nat} (h : k < ks.length) (h0 : 0 < k) (h2 : lowB ks[k].set < lowB ks[k - 1].set) : ¬ (ks.map Tr.set).Pairwise Behind := by
  intro hp
  rw [List.pairwise_iff_getElem] at hp
  have := (hp (k - 1) k (by simp; omega) (by simpa using h) (by omega)).2
  simp only [List.getElem_map] at this
  omega
set_option maxRecDepth 100000 in
set_option maxHeartbeats 4000000 in
theorem areParts_any (A : Nat → Prop) (g n cap : Nat) (ks : List Tr) (w : World) (hn : ks.length = n) (h9 : n ≤ 1000) (hc : ∀ i (h : i < ks.length), ∃ v, w.cell? ⟨g, 0 + i, none⟩ = some v ∧ TreeV A w ks[i] v) (hb : ∀ t ∈ ks, t.set < 512 ∧ t.set ≠ 0) (hT : Tab w) :
    Calls Tryz.prog 77 #[.slice (some ⟨g, 0, none⟩) n cap] w (Tells (PartsP ks) w) := by
  replace hn := Lib.hid hn
  replace hc := Lib.hid hc
  replace hT := Lib.hid hT
  have BS := Lib.hid (fun k h => behind_succ (ks := ks) (k := k) h)
  replace hb := Lib.hid hb
  obtain ⟨P, hP⟩ : ∃ P, Hid (PartsP ks = P) := ⟨_, Lib.hid rfl⟩
  rw [hP.out]
  go_enter Tryz.func77, Tryz.ntmps77
  go_wp2
  go_loopw [3, 8] (fun s i wr => ∃ k : Nat, k ≤ n ∧ i = .int .i64 k ∧ s = .int .i64 ((setL (ks.take k) : Nat) : Int) ∧ Hid (((ks.take k).map Tr.set).Pairwise Behind) ∧ Below w.heap.size w wr) (fun _ i _ => n - (intOf i).toNat)
  case atStart => exact ⟨0, Nat.zero_le _, rfl, rfl, Lib.hid (by simp), Below.refl _ _⟩
  case round =>
    obtain ⟨k, hk, rfl, rfl, hpw, B0⟩ := hrel
    by_cases hlt : k < n
    · have hkl : k < ks.length := by rw [hn.out]; exact hlt
      obtain ⟨v0, hc0, hv0⟩ := hc.out k hkl
      have q0 := cellB B0 hc0
      rw [Nat.zero_add] at q0
      have hsb := hb.out _ (List.getElem_mem hkl)
      have hs0 : setL (ks.take k) < 512 := setL_lt fun t ht => (hb.out t (List.mem_of_mem_take ht)).1
      obtain ⟨ty, pay, f, arg, rfl, hm, he, hnl, hC⟩ := hv0.beasts
      replace hC := Lib.hid hC
      have M := fun W => meets_any ks[k].set (setL (ks.take k)) hsb.1 hs0 W
      have Tk := Lib.hid (hT.out.next B0)
      have L1 := Lib.hid (fun (x : Ext wr) => least_any ks[k].set hsb.1 (Nat.pos_of_ne_zero hsb.2) x.world (Tk.out.next x.ok))
      have hki : (k : Int) < (n : Int) := by omega
      have E := Lib.hid (show setL (ks.take (k + 1)) = setL (ks.take k) ||| ks[k].set from setL_take_succ hkl)
      have ho := i64_or_nat (setL (ks.take k)) ks[k].set (by omega) (by omega)
      have N1 := Lib.hid (fun h => behind_no1 (ks := ks) (k := k) hkl h)
      have S1 := Lib.hid (fun h1 h2 => BS.out k hkl hpw.out h1 h2 hb.out)
      clear hc0 hv0
      cases hin : (ks[k].set &&& setL (ks.take k) == 0)
      · rw [hin, Bool.not_false] at M
        replace M := Lib.hid M
        have hne : ks[k].set &&& setL (ks.take k) ≠ 0 := by simpa using hin
        have hPf := Lib.hid (show ¬ P from fun h => by rw [← hP.out] at h; exact N1.out hne h.2)
        clear hne hsb ho
        generalize ks[k].set = ts at *
        generalize setL (ks.take k) = s0 at *
        replace hin := Lib.hid hin
        go_wp2
        refine wp_region_ext (by kernel_rfl) (by kernel_rfl) ?_
        repeat (go_big_quiet_step (first | (with_reducible exact onlyE (hC.out _)) | (with_reducible exact onlyE (M.out _))))
        refine wpQuiet_nil ?_
        rintro ⟨w2, hw2⟩
        dsimp only
        go_wp2
        go_ret
        exact ⟨false, rfl, ⟨(fun h => by cases h), fun h => absurd h hPf.out⟩, nextB B0 hw2⟩
      · rw [hin, Bool.not_true] at M
        replace M := Lib.hid M
        have hz0 : ks[k].set &&& setL (ks.take k) = 0 := by simpa using hin
        replace hin := Lib.hid hin
        by_cases hk0 : 0 < k
        · obtain ⟨v1, hc1, hv1⟩ := hc.out (k - 1) (by omega)
          have q1 := cellB B0 hc1
          rw [Nat.zero_add] at q1
          have hsb1 := hb.out _ (List.getElem_mem (l := ks) (n := k - 1) (by omega))
          obtain ⟨ty1, pay1, f1, arg1, rfl, hm1, he1, hnl1, hC1⟩ := hv1.beasts
          replace hC1 := Lib.hid hC1
          have L2 := Lib.hid (fun (x : Ext wr) => least_any ks[k - 1].set hsb1.1 (Nat.pos_of_ne_zero hsb1.2) x.world (Tk.out.next x.ok))
          have S2 := Lib.hid (fun (h : ¬ lowB ks[k].set < lowB ks[k - 1].set) => S1.out hz0 (fun _ => h))
          have N2 := Lib.hid (fun h => behind_no2 (ks := ks) (k := k) hkl hk0 h)
          have x0 := cellX q0
          have x1 := cellX q1
          have i1 : (0 : Int) ≤ (k : Int) - 1 := by omega
          have i2 : ((k : Int) - 1).toNat = k - 1 := by omega
          have i3 : (0 : Int) < (k : Int) := by omega
          have i5 : (1 : Int) ≤ (k : Int) := by omega
          have i6 : (k : Int) - 1 < (n : Int) := by omega
          clear hc1 hv1 hsb1 hsb q1 hz0
          generalize ks[k - 1].set = us at *
          generalize ks[k].set = ts at *
          generalize setL (ks.take k) = s0 at *
          generalize lowB ts = la at *
          generalize lowB us = lb at *
          generalize s0 ||| ts = s1 at *
          cases hls : decide (la < lb)
          · have hno := Lib.hid (S2.out (of_decide_eq_false hls))
            go_wp2
            refine wp_region_ext (by kernel_rfl) (by kernel_rfl) ?_
            repeat (go_big_quiet_step (first | (with_reducible exact onlyE (hC.out _)) | (with_reducible exact onlyE (hC1.out _)) | (with_reducible exact onlyE (M.out _)) | (with_reducible exact onlyE (L1.out _)) | (with_reducible exact onlyE (L2.out _))))
            refine wpQuiet_nil ?_
            rintro ⟨w2, hw2⟩
            dsimp only
            clear x0 x1
            go_wp2_with ((with_reducible refine (hC.out _).mono ?_); rintro e w3 ⟨rfl, rfl⟩)
            go_roundw
            case rel => exact ⟨k + 1, by omega, by go_num, by rw [E.out], hno, nextB B0 hw2⟩
            case measure => simp [intOf]; omega
          · have hPf := Lib.hid (show ¬ P from fun h => by rw [← hP.out] at h; exact N2.out (of_decide_eq_true hls) h.2)
            go_wp2
            refine wp_region_ext (by kernel_rfl) (by kernel_rfl) ?_
            repeat (go_big_quiet_step (first | (with_reducible exact onlyE (hC.out _)) | (with_reducible exact onlyE (hC1.out _)) | (with_reducible exact onlyE (M.out _)) | (with_reducible exact onlyE (L1.out _)) | (with_reducible exact onlyE (L2.out _))))
            refine wpQuiet_nil ?_
            rintro ⟨w2, hw2⟩
            dsimp only
            clear x0 x1
            go_wp2
            go_ret
            exact ⟨false, rfl, ⟨(fun h => by cases h), fun h => absurd h hPf.out⟩, nextB B0 hw2⟩
        · have hno := Lib.hid (S1.out hz0 (fun h => absurd h hk0))
          have i3 : (k : Int) ≤ 0 := by omega
          clear hsb hz0
          generalize ks[k].set = ts at *
          generalize setL (ks.take k) = s0 at *
          generalize s0 ||| ts = s1 at *
          go_wp2
          refine wp_region_ext (by kernel_rfl) (by kernel_rfl) ?_
          repeat (go_big_quiet_step (first | (with_reducible exact onlyE (hC.out _)) | (with_reducible exact onlyE (M.out _))))
          refine wpQuiet_nil ?_
          rintro ⟨w2, hw2⟩
          dsimp only
          go_wp2_with ((with_reducible refine (hC.out _).mono ?_); rintro e w3 ⟨rfl, rfl⟩)
          go_roundw
          case rel => exact ⟨k + 1, by omega, by go_num, by rw [E.out], hno, nextB B0 hw2⟩
          case measure => simp [intOf]; omega
    · obtain rfl : k = n := by omega
      rw [show ks.take k = ks by rw [← hn.out, List.take_length]] at hpw ⊢
      have hPd := Lib.hid (show (decide ((2 : Int) ≤ (k : Int)) = true ↔ P) by
        rw [← hP.out]
        unfold PartsP
        rw [hn.out]
        simp only [decide_eq_true_eq]
        exact ⟨fun h => ⟨by omega, hpw.out⟩, fun h => by have := h.1; omega⟩)
      go_wp2
      go_ret
      exact ⟨_, rfl, hPd.out, B0⟩
end Go.Proofs.YtfdaljekehkkaaaGreatDoor
