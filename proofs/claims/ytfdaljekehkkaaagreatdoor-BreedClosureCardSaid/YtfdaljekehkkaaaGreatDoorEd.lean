/- Layer 5: rows of trees grow; what is built has the beasts that it is built of. -/
import Derived.Test.YtfdaljekehkkaaaGreatDoorEc
import Derived.ArgAppend
import Derived.OwnWalk
namespace Go.Proofs.YtfdaljekehkkaaaGreatDoor
open Go Go.RowKit

/-- append to a row of the call's own: the row stays where it is, or is new. -/
theorem wpList_append_ownX {P : Program} (w : World) {ops : Array Oper} {rest : List Oper} {o : Oper} {a : Act} {Q : Exit → Act → World → Prop} (hgd : o.guard = none) (s x : Operand) (t : TypeId)
    (ho : o.op = .call { callee := .builtin .append, args := #[s, x], argTypes := #[t, t] })
    (base : Nat) (e : TypeId) (i : TypeInfo) (z : Value) (size bytes : Nat) (ht : P.underlying t = some (.slice e)) (hi : P.info? e = some i) (hz : i.zero = some z)
    (hsize : i.size = size) (hby : i.bytes = bytes) (hzs : z.cells.size = size) (hsz : 0 < size)
    (v : Value) (n : Nat) (xs : List Value) (hs : a.eval s = v) (hown : w.ownsRow base e size v n xs)
    (ad : Addr) (m c : Nat) (news : List Value) (hx : a.eval x = .slice (some ad) m c) (hl : news.length = m * size) (hm : 0 < m) (hnews : ∀ j u, news[j]? = some u → w.cell? (ad.add j) = some u) (h1 : ∀ u ∈ news, u.oneCell' = true)
    (h63 : n + m ≤ maxLen) (hbytes : (n + m) * bytes ≤ 140737488355328) (hbase : base ≤ w.heap.size)
    (h : ∀ v' w', w'.ownsRow base e size v' (n + m) (xs ++ news) → w.grownBy w' v.ownBlock → (v'.ownBlock = v.ownBlock ∨ ∀ k, v'.ownBlock = some k → w.heap.size ≤ k) → wpList P ops Q rest (a.put o.dst v') w') : wpList P ops Q (o :: rest) a w := by
  have hfresh : ∀ v' w', w'.ownsRow w.heap.size e size v' (n + m) (xs ++ news) → w.grownBy w' none → wpList P ops Q rest (a.put o.dst v') w' := fun v' w' k1 k2 =>
    h v' w' (owns_base k1 hbase) ⟨k2.os, k2.tape, k2.output, k2.size, fun k hk _ => k2.block k hk (by simp)⟩ (.inr fun k hk => (k1.lt k hk).1)
  rcases hown.2 with ⟨rfl, rfl⟩ | ⟨g, cap, cur, rfl, hbg, hg, hnc, hcm, hcs, htake⟩
  · exact wpList_append_grows w hgd s x t ho e i z size bytes ht hi hz hsize hby hzs hsz none 0 0 xs hs (fun _ => ⟨rfl, rfl⟩) hown.1 (fun b hb => by cases hb) ad m c news hx hl hnews h1 (by omega) h63 hbytes hfresh
  · by_cases hroom : n + m ≤ cap
    · exact wpList_append_fits w hgd s x t ho base e i size ht hi hsize g n cap xs hs hown ad m c news hx hl hnews h1 hroom (fun w' k1 k2 => h _ w' k1 k2 (.inl rfl))
    · exact wpList_append_grows w hgd s x t ho e i z size bytes ht hi hz hsize hby hzs hsz (some ⟨g, 0, none⟩) n cap xs hs (fun hh => by cases hh) hown.1 (fun b hb => by cases hb; exact hown.cells (g := g) rfl) ad m c news hx hl hnews h1 (by omega) h63 hbytes hfresh
theorem TreesRow.snoc {base : Nat} {W w3 : World} {v v' x : Value} {ks : List Tr} {t : Tr} {vs : List Value} (hl : vs.length = ks.length) (hT : ∀ i (h : i < ks.length), TreeV (fun b => base ≤ b ∧ v.ownBlock ≠ some b) W ks[i] (vs.getD i .nilIface))
    (hx : TreeV (fun b => base ≤ b ∧ v.ownBlock ≠ some b) W t x) (hown : w3.ownsRow base 57 1 v' (ks.length + 1) (vs ++ [x])) (hg : W.grownBy w3 v.ownBlock) (hf : v'.ownBlock = v.ownBlock ∨ ∀ k, v'.ownBlock = some k → W.heap.size ≤ k) : TreesRow base w3 v' (ks ++ [t]) := by
  have hA : ∀ b, (base ≤ b ∧ v.ownBlock ≠ some b) → b < W.heap.size → (base ≤ b ∧ v'.ownBlock ≠ some b) ∧ w3.heap[b]? = W.heap[b]? := fun b hb hlt => by
    refine ⟨⟨hb.1, fun e => ?_⟩, hg.block b hlt (fun e => hb.2 e.symm)⟩
    rcases hf with k | k
    · rw [k] at e; exact hb.2 e
    · have := k b e; omega
  refine ⟨vs ++ [x], by simp [hl], by simpa using hown, fun i hi => ?_⟩
  by_cases h : i < ks.length
  · rw [List.getElem_append_left h, List.getD_eq_getElem?_getD, List.getElem?_append_left (by omega), ← List.getD_eq_getElem?_getD]
    exact TreeV.frame hA _ _ (hT i h)
  · obtain rfl : i = ks.length := by simp at hi; omega
    rw [List.getElem_append_right (by omega), List.getD_eq_getElem?_getD, List.getElem?_append_right (by omega)]
    simp only [hl, Nat.sub_self, List.getElem_cons_zero, List.getElem?_cons_zero, Option.getD_some]
    exact TreeV.frame hA _ _ hx
theorem TreesRow.nil (base : Nat) (w : World) : TreesRow base w (.slice none 0 0) [] := ⟨[], rfl, World.ownsRow_nil _ _ _ _, fun i h => by simp at h⟩
theorem TreesRow.next {base : Nat} {w w' : World} {v : Value} {ks : List Tr} (h : TreesRow base w v ks) (hb : Below w.heap.size w w') : TreesRow base w' v ks := by
  obtain ⟨vs, h1, h2, h3⟩ := h
  exact ⟨vs, h1, owns_next h2 hb, fun i hi => (h3 i hi).next hb⟩
theorem cell_new (w : World) (x : Value) (t : TypeId) : ∀ j u, [x][j]? = some u → (w.alloc (.cells #[x] t)).cell? (Addr.add ⟨w.heap.size, 0, none⟩ j) = some u := by
  intro j u hj
  have hl : j < 1 := (List.getElem?_eq_some_iff.1 hj).1
  have ha : Addr.add ⟨w.heap.size, 0, none⟩ j = ⟨w.heap.size, j, none⟩ := by first | (simp [Addr.add]; done) | (simp [Addr.add]; omega)
  rw [ha]
  exact (Blk.new w t _).c j (by rw [← hj]; simp)
theorem infoTree : (Tryz.prog.info? 57).map (fun i => (i.zero, i.size, i.bytes)) = some (some .nilIface, 1, 16) := by kernel_rfl
theorem setL_test (ks : List Tr) (i : Nat) : (setL ks).testBit i = ks.any fun t => t.set.testBit i := by
  induction ks with
  | nil => simp [setL]
  | cons k ks ih => simp [setL, Nat.testBit_or, ih]
theorem joinT_set (ks : List Tr) : (joinT ks).set = setL ks := by
  match ks with
  | [] => simp [joinT, sortT, Tr.set]
  | [t] => simp [joinT, setL]
  | a :: b :: l =>
    show setL (sortT (a :: b :: l)) = _
    apply Nat.eq_of_testBit_eq
    intro i
    rw [setL_test, setL_test]
    exact (List.mergeSort_perm (a :: b :: l) leT).any_eq
/-- Parts have different least beasts. -/
theorem low_ne {a b : Nat} (ha : a < 512) (h0 : a ≠ 0) (hb : b < 512) (h1 : b ≠ 0) (h : a &&& b = 0) : lowB a ≠ lowB b := by
  intro e
  have hl : ∀ x, x < 512 → x ≠ 0 → x.testBit (lowB x) = true := by decide +kernel
  have := and_zero.1 h (lowB a) (hl a ha h0)
  rw [e, hl b hb h1] at this
  cases this
theorem parts_good {s : Nat} {ps : List Nat} (hs : s < 512) (h : IsPart s ps) {ts : List Tr} (he : ts.map Tr.set = ps) : (∀ t ∈ ts, t.set ≠ 0) ∧ ts.Pairwise (fun a b => lowB a.set ≠ lowB b.set) ∧ setL ts = s := by
  refine ⟨fun t ht => h.some _ (by rw [← he]; exact List.mem_map_of_mem ht), ?_, ?_⟩
  · have := h.apart
    rw [← he, List.pairwise_map] at this
    refine List.Pairwise.imp_of_mem ?_ this
    intro a b ha hb hab
    have ha' : a.set ∈ ps := by rw [← he]; exact List.mem_map_of_mem ha
    have hb' : b.set ∈ ps := by rw [← he]; exact List.mem_map_of_mem hb
    exact low_ne (Nat.lt_of_le_of_lt (inB_le (h.sub ha')) hs) (h.some _ ha') (Nat.lt_of_le_of_lt (inB_le (h.sub hb')) hs) (h.some _ hb') hab
  · apply Nat.eq_of_testBit_eq
    intro i
    rw [setL_test, Bool.eq_iff_iff, List.any_eq_true, h.all i, ← he]
    constructor
    · rintro ⟨t, ht, hi⟩; exact ⟨t.set, List.mem_map_of_mem ht, hi⟩
    · rintro ⟨p, hp, hi⟩
      obtain ⟨t, ht, rfl⟩ := List.mem_map.1 hp
      exact ⟨t, ht, hi⟩
theorem buildT_set (l : List T3) : ∀ f s t, s < 512 → 0 < s → buildT l f s = some t → t.set = s := by
  intro f
  induction f with
  | zero => intro s t _ _ h; simp [buildT] at h
  | succ f ih =>
    intro s t hs h0 h
    rw [buildT] at h
    by_cases h1 : cntF s 9 = 1
    · rw [if_pos h1] at h
      cases h
      exact ((cnt_one s hs h1).1).symm
    · rw [if_neg h1] at h
      by_cases h2 : (partsL l s).length = 1
      · rw [if_pos h2] at h; cases h
      · rw [if_neg h2] at h
        cases ha : allO (buildT l f) (partsL l s) with
        | none => rw [ha] at h; cases h
        | some ts =>
          rw [ha] at h
          simp only [Option.map_some, Option.some.injEq] at h
          subst h
          have hp := parts_part hs l
          obtain ⟨e1, e2⟩ := allO_some.1 ha
          have he : ts.map Tr.set = partsL l s := by
            apply List.ext_getElem (by simp [e1])
            intro i h1 h2
            rw [List.getElem_map]
            have hm := List.getElem_mem h2
            exact ih _ _ (Nat.lt_of_le_of_lt (inB_le (hp.sub hm)) hs) (Nat.pos_of_ne_zero (hp.some _ hm)) (e2 i h2 (by omega))
          rw [joinT_set]
          exact (parts_good hs hp he).2.2
end Go.Proofs.YtfdaljekehkkaaaGreatDoor
