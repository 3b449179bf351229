/- Layer 5, by the program: what is kept of a tree. -/
import Derived.Test.YtfdaljekehkkaaaGreatDoorGa
import Derived.Test.YtfdaljekehkkaaaGreatDoorEd
import Derived.Test.YtfdaljekehkkaaaGreatDoorEf
namespace Go.Proofs.YtfdaljekehkkaaaGreatDoor
open Go Go.RowKit

theorem txt_pos (t : Tr) : 1 ≤ t.txt.length := by
  cases t <;> simp [Tr.txt]
theorem conL_len_two (ks : List Tr) : 2 * ks.length ≤ (conL ks).length := by
  induction ks with
  | nil => simp
  | cons k ks ih =>
    have := txt_pos k
    simp only [conL, List.length_cons, List.length_append]
    omega
theorem keepL_take {s : Nat} {ks : List Tr} {k : Nat} (h : k < ks.length) : keepL s (ks.take (k + 1)) = if ks[k].set &&& s == 0 then keepL s (ks.take k) else keepL s (ks.take k) ++ [keepT s ks[k]] := by
  rw [List.take_succ_eq_append_getElem h, keepL_append]
  simp only [keepL, beq_iff_eq]
  split <;> simp
theorem keepL_len (s : Nat) (ks : List Tr) : (keepL s ks).length ≤ ks.length := by
  induction ks with
  | nil => simp [keepL]
  | cons k ks ih =>
    simp only [keepL]
    split <;> simp <;> omega
/-- The beasts that are kept. -/
theorem keepT_set (s : Nat) : ∀ t : Tr, t.set &&& s ≠ 0 → (keepT s t).set = t.set &&& s := by
  intro t
  induction t using Tr.ind with
  | h1 b =>
    intro h
    simp only [keepT, Tr.set] at *
    apply Nat.eq_of_testBit_eq
    intro i
    rw [Nat.testBit_and, pw_test]
    by_cases hi : b = i
    · subst hi
      have : s.testBit b = true := by
        obtain ⟨j, hj⟩ := ex_bit h
        rw [Nat.testBit_and, pw_test] at hj
        simp only [Bool.and_eq_true, decide_eq_true_eq] at hj
        obtain ⟨rfl, hj⟩ := hj
        exact hj
      simp [this]
    · simp [hi]
  | h2 ks ih =>
    intro _
    simp only [keepT, joinT_set, Tr.set]
    have : ∀ ls : List Tr, (∀ t ∈ ls, t ∈ ks) → setL (keepL s ls) = setL ls &&& s := by
      intro ls
      induction ls with
      | nil => intro _; simp [keepL, setL]
      | cons k ls ih2 =>
        intro hl
        have e2 := ih2 fun t ht => hl t (by simp [ht])
        simp only [keepL, setL]
        by_cases h0 : k.set &&& s = 0
        · rw [if_pos h0, e2, Nat.and_or_distrib_right, h0, Nat.zero_or]
        · rw [if_neg h0, setL, ih k (hl k (by simp)) h0, e2, Nat.and_or_distrib_right]
    exact this ks fun _ h => h
theorem keepL_mem {s : Nat} {ks : List Tr} {t : Tr} (h : t ∈ keepL s ks) : ∃ k ∈ ks, k.set &&& s ≠ 0 ∧ t = keepT s k := by
  induction ks with
  | nil => cases h
  | cons k ks ih =>
    simp only [keepL] at h
    split at h
    · obtain ⟨x, hx, h1, h2⟩ := ih h
      exact ⟨x, by simp [hx], h1, h2⟩
    · rename_i hne
      rcases List.mem_cons.1 h with e | e
      · exact ⟨k, by simp, hne, e⟩
      · obtain ⟨x, hx, h1, h2⟩ := ih e
        exact ⟨x, by simp [hx], h1, h2⟩
theorem keepL_apart {s : Nat} {ks : List Tr} (hp : (ks.map Tr.set).Pairwise fun a b => a &&& b = 0) : (keepL s ks).Pairwise fun a b => a.set &&& b.set = 0 := by
  induction ks with
  | nil => simp [keepL]
  | cons k ks ih =>
    rw [List.map_cons, List.pairwise_cons] at hp
    simp only [keepL]
    split
    · exact ih hp.2
    · rename_i hne
      rw [List.pairwise_cons]
      refine ⟨fun t ht => ?_, ih hp.2⟩
      obtain ⟨x, hx, h1, rfl⟩ := keepL_mem ht
      rw [keepT_set s k hne, keepT_set s x h1, and_zero]
      intro i hi
      rw [Nat.testBit_and, Bool.and_eq_true] at hi
      rw [Nat.testBit_and, and_zero.1 (hp.1 _ (List.mem_map_of_mem hx)) i hi.1]; rfl
theorem keepL_facts {m : Nat} (hm : m ≤ 9) {s : Nat} {ks : List Tr} (hg : Good m (.fam ks)) (h : setL ks &&& s ≠ 0) :
    (∀ t ∈ keepL s ks, t.set ≠ 0) ∧ (keepL s ks).Pairwise (fun a b => lowB a.set ≠ lowB b.set) ∧ (keepL s ks).Pairwise (fun a b => a.set &&& b.set = 0) ∧ keepL s ks ≠ [] := by
  simp only [Good] at hg
  obtain ⟨_, hp, hgl⟩ := hg
  have h512 : pw m ≤ 512 := pw_mono (k := 9) hm
  have ha := keepL_apart (s := s) (hp.imp fun h => h.1)
  have hne : ∀ t ∈ keepL s ks, t.set ≠ 0 ∧ t.set < 512 := fun t ht => by
    obtain ⟨x, hx, h1, rfl⟩ := keepL_mem ht
    rw [keepT_set s x h1]
    have := (Good.bound hm x (goodL_iff.1 hgl x hx)).1
    exact ⟨h1, Nat.lt_of_le_of_lt Nat.and_le_left (by omega)⟩
  refine ⟨fun t ht => (hne t ht).1, ?_, ha, ?_⟩
  · refine List.Pairwise.imp_of_mem ?_ ha
    intro a b hx hy hab
    exact low_ne (hne a hx).2 (hne a hx).1 (hne b hy).2 (hne b hy).1 hab
  · intro e
    obtain ⟨i, hi⟩ := ex_bit h
    rw [Nat.testBit_and, Bool.and_eq_true, setL_test, List.any_eq_true] at hi
    obtain ⟨⟨t, ht, hti⟩, hsi⟩ := hi
    have : ∀ ls : List Tr, t ∈ ls → keepL s ls ≠ [] := by
      intro ls
      induction ls with
      | nil => intro h; cases h
      | cons k ls ih =>
        intro h
        simp only [keepL]
        split
        · rename_i h0
          rcases List.mem_cons.1 h with e | e
          · subst e
            have := and_zero.1 h0 i hti
            rw [hsi] at this; cases this
          · exact ih e
        · simp
    exact this ks ht e
/-- What is kept of a tree is a tree. -/
theorem keepT_good {m : Nat} (hm : m ≤ 9) (s : Nat) : ∀ t : Tr, Good m t → t.set &&& s ≠ 0 → Good m (keepT s t) := by
  intro t
  induction t using Tr.ind with
  | h1 b => intro h _; exact h
  | h2 ks ih =>
    intro hg h0
    obtain ⟨q1, q2, q3, q4⟩ := keepL_facts hm hg h0
    simp only [keepT]
    refine joinT_good q4 ?_ q2 q3
    intro t ht
    obtain ⟨x, hx, h1, rfl⟩ := keepL_mem ht
    simp only [Good] at hg
    exact ih x hx (goodL_iff.1 hg.2.2 x hx) h1
set_option maxRecDepth 100000 in
set_option maxHeartbeats 4000000 in
theorem kept_any : ∀ (t : Tr) (A : Nat → Prop) (v : Value) (s : Nat) (w : World), TreeV A w t v → Good 9 t → s < 512 → t.set &&& s ≠ 0 → Tab w → Calls Tryz.prog 35 #[v, .int .i64 (s : Nat)] w (NewT w.heap.size (keepT s t) w) := by
  intro t
  induction t using Tr.ind with
  | h1 b =>
    intro A v s w h _ hs _ _
    have h2 := h
    simp only [TreeV] at h2
    obtain ⟨rfl, hb⟩ := h2
    have ht := ta_leaf b
    clear h
    go_enter Tryz.func35, Tryz.ntmps35
    go_wp2
    go_ret
    exact ⟨_, rfl, ⟨rfl, hb⟩, Below.refl _ _⟩
  | h2 ks ih =>
    intro A v s w h hg hs h0s hT
    simp only [TreeV] at h
    obtain ⟨blk, off, c, rfl, hsl, ha, h0, hk⟩ := h
    rw [treesV_iff] at hk
    have hgl : GoodL 9 ks := by simp only [Good] at hg; exact hg.2.2
    have hlen9 : ks.length ≤ 9 := by
      have h1 := hg.len (Nat.le_refl _)
      have h2 := cntF_le (Tr.fam ks).set 9
      have h3 := txtL_len_le ks
      simp only [Good] at hg
      have h4 := conL_len (ks := ks) (hg.2.1.imp fun h => h.1) fun t ht => (goodL_iff.1 hg.2.2 t ht).len (Nat.le_refl _)
      have h5 := cntF_le (setL ks) 9
      have h6 := conL_len_two ks
      omega
    have hfacts := Lib.hid (keepL_facts (Nat.le_refl 9) hg h0s)
    show Calls Tryz.prog _ _ w (NewT w.heap.size (joinT (keepL s ks)) w)
    obtain ⟨n, hn⟩ : ∃ n, Hid (ks.length = n) := ⟨_, Lib.hid rfl⟩
    rw [hn.out] at h0 hlen9
    rw [hn.out]
    replace hk := Lib.hid hk
    replace ih := Lib.hid ih
    replace hgl := Lib.hid hgl
    replace hT := Lib.hid hT
    obtain ⟨i0, hi, hz0, hz1, hz2⟩ := info_parts infoTree
    have G0 := Lib.hid hi
    have G1 := Lib.hid hz0
    have G2 := Lib.hid hz1
    have G3 := Lib.hid hz2
    clear hi hz0 hz1 hz2 hg h0s
    generalize setL ks = d at *
    have hn1 := h0.1
    have hB := Blk.new w 92 #[.int .i64 (d : Int), .slice (some ⟨blk, off, none⟩) n c]
    have x1 := hB.c 1 rfl
    have bA := Lib.hid (b1 w (.cells #[.int .i64 (d : Int), .slice (some ⟨blk, off, none⟩) n c] 92))
    replace hB := Lib.hid hB
    have ht := fun x => ta_fam x
    go_enter Tryz.func35, Tryz.ntmps35
    go_wp2
    go_loopw [6, 18] (fun v i wr => ∃ k : Nat, k ≤ n ∧ i = .int .i64 k ∧ TreesRow w.heap.size wr v (keepL s (ks.take k)) ∧ Below w.heap.size w wr) (fun _ i _ => n - (intOf i).toNat)
    case atStart => exact ⟨0, Nat.zero_le _, rfl, TreesRow.nil _ _, bA.out⟩
    case round =>
      clear x1 ht
      obtain ⟨k, hk', rfl, hR, B0⟩ := hrel
      by_cases hlt : k < n
      · have hkl : k < ks.length := by rw [hn.out]; exact hlt
        obtain ⟨v0, hc, hv⟩ := hk.out k hkl
        have y0 := cellB B0 hc
        have hvs := hv.set_lt
        have H := Lib.hid (fun W => meets_any ks[k].set s hvs hs W)
        have hv' := hv.next B0
        obtain ⟨ty, pay, f, arg, rfl, hm, he, hnl, hC⟩ := hv.beasts
        have F := Lib.hid (keepL_take (s := s) hkl)
        have hki : (k : Int) < (n : Int) := by omega
        have hkl9 : (keepL s (ks.take k)).length ≤ 9 := by
          have h1 := keepL_len s (ks.take k)
          have h2 := List.length_take_le k ks
          omega
        replace hC := Lib.hid hC
        cases hin : (ks[k].set &&& s == 0)
        · have hne0 : ks[k].set &&& s ≠ 0 := by simpa using hin
          have R := Lib.hid (ih.out ks[k] (List.getElem_mem hkl) A _ s wr hv' (goodL_iff.1 hgl.out _ (List.getElem_mem hkl)) hs hne0 (hT.out.next B0))
          rw [hin] at H F
          clear hc hv hvs hv' hne0
          obtain ⟨vs, hvl, hown, hTs⟩ := hR
          have hlt2 := Lib.hid hown.lt
          replace hTs := Lib.hid hTs
          generalize keepT s ks[k] = kt at *
          obtain ⟨kl, hkl2⟩ : ∃ x, Hid (keepL s (ks.take k) = x) := ⟨_, Lib.hid rfl⟩
          rw [hkl2.out] at hkl9 hvl hTs hown F
          generalize ks[k].set = ts at *
          go_wp2_with (first
            | ((with_reducible refine (hC.out _).mono ?_); rintro e w2 ⟨rfl, rfl⟩)
            | (go_at_call 53; (with_reducible refine (H.out _).mono ?_); rintro e w2 ⟨rfl, rfl⟩)
            | (go_at_call 35; (with_reducible refine R.out.mono ?_); rintro e w2 ⟨x, rfl, hx, hb2⟩; replace hx := Lib.hid hx; have hown2 := owns_next hown hb2; obtain ⟨ty2, pay2, rfl⟩ := hx.out.shape)
            | (at_builtin; refine wpList_append_ownX _ rfl _ _ 81 rfl w.heap.size 57 i0 .nilIface 1 16 Tryz.underlying81 G0.out G1.out G2.out G3.out rfl (by decide) _ _ _ rfl (hown2.alloc _) ⟨_, 0, none⟩ 1 1 [.iface ty2 pay2] rfl rfl (by decide) (cell_new _ _ _) (by simp [Value.oneCell']) (by unfold maxLen; omega) (by omega) (by have := B0.size; have := hb2.size; simp; omega) ?_; intro v' w3 hown3 hgrow hfr))
          have hs1 := B0.size
          have hs2 := hb2.size
          have bA2 := (nextB B0 hb2).alloc (by omega) (.cells #[.iface ty2 pay2] 57)
          have B2 := bA2.grown hgrow (by simp; omega) (fun q hq => by have := (hlt2.out q hq).1; omega)
          have hb3 := hb2.alloc hs2 (.cells #[.iface ty2 pay2] 57)
          have hR2 := Lib.hid (TreesRow.snoc (ks := kl) (t := kt) hvl (fun i hi => (hTs.out i hi).next hb3) (TreeV.frame (A' := fun b => w.heap.size ≤ b ∧ _ ≠ some b) (fun b hb hlt3 => ⟨⟨by omega, fun e => by have := (hlt2.out b e).2; omega⟩, (b1 w2 (.cells #[.iface ty2 pay2] 57)).block b hlt3⟩) _ _ hx.out) hown3 hgrow hfr)
          go_roundw
          case rel => exact ⟨k + 1, by omega, by go_num, by rw [F.out]; exact hR2.out, B2⟩
          case measure => simp [intOf]; omega
        · rw [hin] at H F
          clear hc hv hvs hv'
          replace hR := Lib.hid hR
          generalize ks[k].set = ts at *
          go_wp2_with (first
            | ((with_reducible refine (hC.out _).mono ?_); rintro e w2 ⟨rfl, rfl⟩)
            | (go_at_call 53; (with_reducible refine (H.out _).mono ?_); rintro e w2 ⟨rfl, rfl⟩))
          go_roundw
          case rel => exact ⟨k + 1, by omega, by go_num, by rw [F.out]; exact hR.out, B0⟩
          case measure => simp [intOf]; omega
      · obtain rfl : k = n := by omega
        rw [show ks.take k = ks by rw [← hn.out, List.take_length]] at hR
        obtain ⟨q1, q2, q3, q4⟩ := hfacts.out
        have hl1 : 1 ≤ (keepL s ks).length := Nat.pos_of_ne_zero fun e => q4 (List.length_eq_zero_iff.1 e)
        have hl2 := keepL_len s ks
        have hl3 := hn.out
        have J := Lib.hid (join_any w.heap.size _ (keepL s ks) _ wr hR rfl hl1 (by omega) q1 q2 B0.size (fun W hW => hT.out.next (B0.trans hW)))
        clear hR q1 q2 q3 q4 hl1 hl2 hl3
        generalize keepL s ks = kl at *
        go_wp2_with (go_at_call 46; (with_reducible refine J.out.mono ?_); rintro e w2 ⟨x, rfl, hx, hb2⟩; replace hx := Lib.hid hx)
        go_ret
        exact ⟨_, rfl, hx.out, B0.trans hb2⟩
end Go.Proofs.YtfdaljekehkkaaaGreatDoor
