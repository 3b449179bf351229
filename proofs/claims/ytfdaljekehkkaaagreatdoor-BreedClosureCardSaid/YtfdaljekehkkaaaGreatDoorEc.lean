/- Layer 5, by the program: join. -/
import Derived.Test.YtfdaljekehkkaaaGreatDoorEb
namespace Go.Proofs.YtfdaljekehkkaaaGreatDoor
open Go Go.RowKit

/-- A row of the call's own that holds trees, which lie elsewhere. -/
def TreesRow (base : Nat) (w : World) (v : Value) (ks : List Tr) : Prop :=
  ∃ vs : List Value, vs.length = ks.length ∧ w.ownsRow base 57 1 v ks.length vs ∧ ∀ i (h : i < ks.length), TreeV (fun b => base ≤ b ∧ v.ownBlock ≠ some b) w ks[i] (vs.getD i .nilIface)
/-- A tree and its value, as an element. -/
def elOf (p : Tr × Value) : El := (lowB p.1.set, p.2)
theorem pairwise_mem_ne {α : Type} {key : α → Nat} {l : List α} (hd : l.Pairwise (fun a b => key a ≠ key b)) {a b : α} (ha : a ∈ l) (hb : b ∈ l) (he : key a = key b) : a = b := by
  obtain ⟨i, hi, rfl⟩ := List.mem_iff_getElem.1 ha
  obtain ⟨j, hj, rfl⟩ := List.mem_iff_getElem.1 hb
  rw [List.pairwise_iff_getElem] at hd
  rcases Nat.lt_trichotomy i j with h | h | h
  · exact absurd he (hd i j hi hj h)
  · subst h; rfl
  · exact absurd he.symm (hd j i hj hi h)
/-- What a row of trees is, put in order. -/
theorem sorted_row {ks : List Tr} {vs : List Value} (hl : vs.length = ks.length) (hd : ks.Pairwise (fun a b => lowB a.set ≠ lowB b.set)) {M : List El} (hp : M.Perm ((ks.zip vs).map elOf)) (hs : SortedE M) :
    ∃ Z : List (Tr × Value), Z.Perm (ks.zip vs) ∧ M = Z.map elOf ∧ Z.map (·.1) = sortT ks := by
  have hz1 : (ks.zip vs).map (·.1) = ks := List.map_fst_zip (by omega)
  have hdz : (ks.zip vs).Pairwise (fun a b => (elOf a).1 ≠ (elOf b).1) := by
    have : ((ks.zip vs).map (·.1)).Pairwise (fun a b => lowB a.set ≠ lowB b.set) := by rw [hz1]; exact hd
    rw [List.pairwise_map] at this
    exact this
  let le : Tr × Value → Tr × Value → Bool := fun a b => decide ((elOf a).1 ≤ (elOf b).1)
  have hZp : ((ks.zip vs).mergeSort le).Perm (ks.zip vs) := List.mergeSort_perm _ _
  have hZs : ((ks.zip vs).mergeSort le).Pairwise (fun a b => le a b = true) := List.pairwise_mergeSort (fun a b c h k => by simp only [le, decide_eq_true_eq] at *; omega) (fun a b => by simp only [le, Bool.or_eq_true, decide_eq_true_eq]; omega) _
  refine ⟨(ks.zip vs).mergeSort le, hZp, ?_, ?_⟩
  · refine List.Perm.eq_of_pairwise (le := fun a b : El => a.1 ≤ b.1) ?_ (sortedE_pair.1 hs) ?_ (hp.trans (hZp.map elOf).symm)
    · intro a b ha hb h1 h2
      have ha' := hp.mem_iff.1 ha
      have hb' : b ∈ (ks.zip vs).map elOf := (hZp.map elOf).mem_iff.1 hb
      obtain ⟨x, hx, rfl⟩ := List.mem_map.1 ha'
      obtain ⟨y, hy, rfl⟩ := List.mem_map.1 hb'
      rw [pairwise_mem_ne hdz hx hy (by omega)]
    · rw [List.pairwise_map]
      exact hZs.imp fun h => by simpa [le] using h
  · symm
    refine sort_one ?_ ?_ hd
    · have := hZp.map (·.1)
      rwa [hz1] at this
    · rw [List.pairwise_map]
      exact hZs.imp fun h => by have := of_decide_eq_true h; exact this
theorem setL_take_succ {ks : List Tr} {k : Nat} (h : k < ks.length) : setL (ks.take (k + 1)) = setL (ks.take k) ||| ks[k].set := by
  rw [List.take_succ_eq_append_getElem h, setL_append]
  simp [setL]
theorem setL_lt {ks : List Tr} (h : ∀ t ∈ ks, t.set < 512) : setL ks < 512 := by
  induction ks with
  | nil => decide
  | cons k ks ih =>
    simp only [setL]
    exact Nat.or_lt_two_pow (n := 9) (h k (by simp)) (ih fun t ht => h t (by simp [ht]))
/-- A tree of memory from base on was returned. -/
def NewT (base : Nat) (t : Tr) (w : World) (e : Ending) (w' : World) : Prop := ∃ v, e = .returned v ∧ TreeV (fun b => base ≤ b) w' t v ∧ Below base w w'
set_option maxRecDepth 100000 in
set_option maxHeartbeats 2000000 in
theorem join_any (base : Nat) (v : Value) (ks : List Tr) (n : Nat) (w : World) (hR : TreesRow base w v ks) (hn : ks.length = n) (h1 : 1 ≤ n) (h12 : n ≤ 12) (hne : ∀ t ∈ ks, t.set ≠ 0) (hd : ks.Pairwise (fun a b => lowB a.set ≠ lowB b.set)) (hb0 : base ≤ w.heap.size) (HT : ∀ W, Below base w W → Tab W) :
    Calls Tryz.prog 46 #[v] w (NewT base (joinT ks) w) := by
  obtain ⟨vs, hvl, hown, hTr⟩ := hR
  obtain ⟨g, cap, rfl⟩ := own_pos hown (by omega)
  rw [hn] at hown
  have hg := (hown.lt g rfl).1
  have hgl := (hown.lt g rfl).2
  have hA : ∀ b, (base ≤ b ∧ (Value.slice (some ⟨g, 0, none⟩) n cap).ownBlock ≠ some b) ↔ (base ≤ b ∧ b ≠ g) := fun b => by
    simp only [Value.ownBlock, ne_eq, Option.some.injEq]
    exact ⟨fun h => ⟨h.1, fun e => h.2 e.symm⟩, fun h => ⟨h.1, fun e => h.2 e.symm⟩⟩
  rw [hn]
  have hTr2 : ∀ i (h : i < ks.length), TreeV (fun b => base ≤ b ∧ b ≠ g) w ks[i] (vs.getD i .nilIface) := fun i h => (hTr i h).mono fun b hb _ => (hA b).1 (by simpa [hn] using hb)
  clear hTr hA
  have hZmem : ∀ p ∈ ks.zip vs, TreeV (fun b => base ≤ b ∧ b ≠ g) w p.1 p.2 ∧ p.1.set ≠ 0 := fun p hp => by
    obtain ⟨i, hi, rfl⟩ := List.mem_iff_getElem.1 hp
    rw [List.length_zip] at hi
    rw [List.getElem_zip]
    have := hTr2 i (by omega)
    rw [List.getD_eq_getElem?_getD, List.getElem?_eq_getElem (by omega)] at this
    exact ⟨this, hne _ (List.getElem_mem _)⟩
  by_cases h2 : n = 1
  · subst h2
    obtain ⟨t, rfl⟩ : ∃ t, ks = [t] := List.length_eq_one_iff.1 hn
    have x0 := hown.cellAt 0 (by omega)
    have ht := hTr2 0 (by simp)
    rw [show vs[0]? = some (vs.getD 0 .nilIface) by rw [List.getD_eq_getElem?_getD, List.getElem?_eq_getElem (by rw [hvl]; simp)]; rfl] at x0
    obtain ⟨x, hx⟩ : ∃ x, Hid (vs.getD 0 .nilIface = x) := ⟨_, Lib.hid rfl⟩
    rw [hx.out] at x0 ht
    have ht2 := Lib.hid (ht.mono (A' := fun b => base ≤ b) fun b hb _ => hb.1)
    clear hown hTr2 hZmem ht hn hvl hne hd
    go_enter Tryz.func46, Tryz.ntmps46
    go_wp2
    go_ret
    exact ⟨_, rfl, ht2.out, Below.refl _ _⟩
  · have hnI : ((n : Int) == 1) = false := by rw [beq_eq_false_iff_ne]; omega
    rw [joinT_many (by omega)]
    have hcE : cE ((ks.zip vs).map elOf) = vs := by
      unfold cE
      rw [List.map_map]
      exact List.map_snd_zip (by omega)
    have hTE : TreeE (fun b => base ≤ b ∧ b ≠ g) w ((ks.zip vs).map elOf) := fun e he => by
      obtain ⟨p, hp, rfl⟩ := List.mem_map.1 he
      exact ⟨p.1, (hZmem p hp).1, (hZmem p hp).2, rfl⟩
    have S := Lib.hid (sortT_any base g n cap ((ks.zip vs).map elOf) w (by simp; omega) h12 hg _ hTE HT (by rw [hcE]; exact hown))
    have Z := Lib.hid (fun (M : List El) (hp : M.Perm ((ks.zip vs).map elOf)) (hs : SortedE M) => sorted_row hvl hd hp hs)
    replace hZmem := Lib.hid hZmem
    replace HT := Lib.hid HT
    have hlen := Lib.hid (show (ks.zip vs).length = n by simp; omega)
    clear hTE hcE hown hTr2 hvl hn hne hd
    go_enter Tryz.func46, Tryz.ntmps46
    go_wp2_with fail
    refine S.out.mono ?_
    rintro e w1 ⟨rfl, M, hp, hso, hown1, hb1, hap⟩
    obtain ⟨Z', hZp, rfl, hZs⟩ := Z.out M hp hso
    have hZl : Z'.length = n := by rw [hZp.length_eq, hlen.out]
    have hZt : ∀ p ∈ Z', TreeV (fun b => base ≤ b ∧ b ≠ g) w1 p.1 p.2 := fun p hpz => by
      refine TreeV.frame (fun b hb hlt => ⟨hb, hap.2 b hlt hb.2⟩) _ _ ((hZmem.out p (hZp.mem_iff.1 hpz)).1)
    rw [← hZs]
    have hsl : setL (Z'.map (·.1)) < 512 := setL_lt fun t ht => by
      obtain ⟨p, hpz, rfl⟩ := List.mem_map.1 ht
      exact (hZt p hpz).set_lt
    have hb1s := hb1.size
    have hB := Blk.new w1 92 #[.int .i64 0, .slice (some ⟨g, 0, none⟩) n cap]
    have hbA := b1 w1 (.cells #[.int .i64 0, .slice (some ⟨g, 0, none⟩) n cap] 92)
    replace hown1 := Lib.hid hown1
    replace hZt := Lib.hid hZt
    replace hap := Lib.hid hap
    replace hZp := Lib.hid hZp
    replace hZs := Lib.hid hZs
    replace hZl := Lib.hid hZl
    replace hB := Lib.hid hB
    replace hbA := Lib.hid hbA
    replace hb1 := Lib.hid hb1
    clear hp hso Z S
    go_wp2
    go_loopw [18] (fun i wr => ∃ k : Nat, k ≤ n ∧ i = .int .i64 k ∧ Blk wr w1.heap.size 92 #[.int .i64 ((setL ((Z'.map (·.1)).take k) : Nat) : Int), .slice (some ⟨g, 0, none⟩) n cap] ∧ Below w1.heap.size w1 wr) (fun i _ => n - (intOf i).toNat)
    case atStart => exact ⟨0, Nat.zero_le _, rfl, hB.out, hbA.out⟩
    case round =>
      obtain ⟨k, hk, rfl, hB, B0⟩ := hrel
      by_cases hlt : k < n
      · have hkl : k < Z'.length := by rw [hZl.out]; exact hlt
        have ht := hZt.out _ (List.getElem_mem hkl)
        have hk5 : Hid (setL ((Z'.map (·.1)).take (k + 1)) = setL ((Z'.map (·.1)).take k) ||| Z'[k].1.set) := Lib.hid (by
          rw [setL_take_succ (by simpa using hkl)]; simp)
        have hs0 : setL ((Z'.map (·.1)).take k) < 512 := setL_lt fun t ht => by
          obtain ⟨p, hpz, rfl⟩ := List.mem_map.1 (List.mem_of_mem_take ht)
          exact (hZt.out p hpz).set_lt
        have hs1 := ht.set_lt
        have ho := i64_or_nat (setL ((Z'.map (·.1)).take k)) Z'[k].1.set (by omega) (by omega)
        have q0 := (owns_next hown1.out B0).cellAt k (by omega)
        have e0 : (cE (Z'.map elOf))[k]? = some Z'[k].2 := by simp [cE, elOf, hkl]
        rw [e0] at q0
        obtain ⟨ty, pay, f, arg, ev, hm, he, hnl, hc⟩ := ht.beasts
        rw [ev] at q0
        have x0 := cellX (hB.c 0 rfl)
        have hki : (k : Int) < (n : Int) := by omega
        replace hc := Lib.hid hc
        replace ev := Lib.hid ev
        replace hB := Lib.hid hB
        clear ht hs0 hs1
        generalize setL ((Z'.map (·.1)).take k) = s0 at *
        generalize Z'[k].1.set = s1 at *
        generalize s0 ||| s1 = s2 at *
        go_wp2
        refine wp_region_ext_tail 6 (by kernel_rfl) (by kernel_rfl) ?_
        simp only [List.take_succ_cons, List.take_zero, List.drop_succ_cons, List.drop_zero]
        repeat (go_big_quiet_step (exact onlyE (hc.out _)))
        refine wpQuiet_nil ?_
        rintro ⟨w3, hw3⟩
        dsimp only
        clear x0
        have hB3 := hB.out.ext hw3
        have y0 := hB3.c 0 rfl
        have y1 := hB3.fr 0
        have hS := Lib.hid (hB3.setA (i := 0) (.int .i64 (s2 : Int)))
        have bw := Lib.hid ((nextB B0 hw3).setCell (p := ⟨w1.heap.size, 0, none⟩) (Nat.le_refl _) (.int .i64 (s2 : Int)))
        replace hB3 := Lib.hid hB3
        go_wp2
        go_roundw
        case rel => exact ⟨k + 1, by omega, by go_num, by rw [hk5.out]; exact hS.out, bw.out⟩
        case measure => simp [intOf]; omega
      · obtain rfl : k = n := by omega
        have e : (Z'.map (·.1)).take k = Z'.map (·.1) := by rw [← hZl.out, ← List.length_map (f := (·.1)), List.take_length]
        rw [e] at hB
        have y0 := hB.c 0 rfl
        have y1 := hB.c 1 rfl
        have rowc := Lib.hid (owns_next hown1.out B0)
        replace hB := Lib.hid hB
        go_wp2
        go_ret
        refine ⟨_, rfl, ?_, hb1.out.trans (B0.mono (Nat.le_trans hb0 hb1s))⟩
        rw [← hZs.out]
        simp only [TreeV]
        refine ⟨g, 0, cap, by rw [List.length_map, hZl.out]; rfl, hsl, hg, by rw [List.length_map, hZl.out]; omega, ?_⟩
        rw [treesV_iff]
        intro i hi
        have hiz : i < Z'.length := by simpa using hi
        refine ⟨Z'[i].2, ?_, ?_⟩
        · have := rowc.out.cellAt i (by rw [← hZl.out]; omega)
          rw [Nat.zero_add, this]
          simp [cE, elOf, hiz]
        · rw [List.getElem_map]
          exact ((hZt.out _ (List.getElem_mem hiz)).mono fun b hb _ => hb.1).next B0
end Go.Proofs.YtfdaljekehkkaaaGreatDoor
