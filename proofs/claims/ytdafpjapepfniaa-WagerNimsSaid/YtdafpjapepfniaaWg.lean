/- Layer 7, by the program: the iterator over the winning moves of a game. -/
import Derived.Test.YtdafpjapepfniaaWf
namespace Go.Proofs.Ytdafpjapepfniaa
open Go Go.RowKit Go.Shelf
attribute [local go_sem] Oper.semAt_some

/-- New heaps were returned. -/
def NewH (L : List Hp) (w : World) (e : Ending) (w' : World) : Prop := ∃ a c, e = .returned (.slice a L.length c) ∧ L.length ≤ c ∧ (0 < L.length → ∃ g, a = some ⟨g, 0, none⟩ ∧ w.heap.size ≤ g ∧ HBlk w' g L) ∧ Below w.heap.size w w'
theorem Blk.c7 {W : World} {B : Nat} {t : TypeId} {h : Hp} (k : Blk W B t (hC h)) : W.cell? ⟨B, 0, none⟩ = some (.int .i64 h.s0) ∧ W.cell? ⟨B, 1, none⟩ = some (.int .i64 h.s1) ∧ W.cell? ⟨B, 2, none⟩ = some (.int .i64 h.s2) ∧ W.cell? ⟨B, 3, none⟩ = some (.int .i64 h.s3) ∧ W.cell? ⟨B, 4, none⟩ = some (.int .i64 h.s4) ∧ W.cell? ⟨B, 5, none⟩ = some (.int .i64 h.s5) ∧ W.cell? ⟨B, 6, none⟩ = some (.int .i64 h.lim) :=
  ⟨k.c 0 rfl, k.c 1 rfl, k.c 2 rfl, k.c 3 rfl, k.c 4 rfl, k.c 5 rfl, k.c 6 rfl⟩
theorem Blk.c2f {W : World} {B : Nat} {t : TypeId} {mf wf : Nat} {mc wc : Array Value} (k : Blk W B t (gmC mf mc wf wc)) : W.cell? ⟨B, 0, none⟩ = some (fnV mf mc) ∧ W.cell? ⟨B, 1, none⟩ = some (fnV wf wc) := ⟨k.c 0 rfl, k.c 1 rfl⟩
theorem HBlk.c7 {W : World} {g : Nat} {L : List Hp} (k : HBlk W g L) {i : Nat} (hi : i < L.length) : W.cell? ⟨g, i * 7, none⟩ = some (.int .i64 (hAt L i).s0) ∧ W.cell? ⟨g, i * 7 + 1, none⟩ = some (.int .i64 (hAt L i).s1) ∧ W.cell? ⟨g, i * 7 + 2, none⟩ = some (.int .i64 (hAt L i).s2) ∧ W.cell? ⟨g, i * 7 + 3, none⟩ = some (.int .i64 (hAt L i).s3) ∧ W.cell? ⟨g, i * 7 + 4, none⟩ = some (.int .i64 (hAt L i).s4) ∧ W.cell? ⟨g, i * 7 + 5, none⟩ = some (.int .i64 (hAt L i).s5) ∧ W.cell? ⟨g, i * 7 + 6, none⟩ = some (.int .i64 (hAt L i).lim) :=
  ⟨k.c hi 0 (by omega), k.c hi 1 (by omega), k.c hi 2 (by omega), k.c hi 3 (by omega), k.c hi 4 (by omega), k.c hi 5 (by omega), k.c hi 6 (by omega)⟩
/-- The winning ones of the first k. -/
def wonTo (L : List Hp) (f : Hp → Bool) (k : Nat) : List Hp := (L.take k).filter fun x => !f x
theorem hAt_mem {L : List Hp} {k : Nat} (h : k < L.length) : hAt L k ∈ L := by
  unfold hAt; rw [List.getD_eq_getElem?_getD, List.getElem?_eq_getElem h]; exact List.getElem_mem h
theorem take_snocH (L : List Hp) (k : Nat) (h : k < L.length) : L.take (k + 1) = L.take k ++ [hAt L k] := by
  rw [List.take_succ_eq_append_getElem h]; simp [hAt, h]
theorem wonTo_succ (L : List Hp) (f : Hp → Bool) (k : Nat) (h : k < L.length) : wonTo L f (k + 1) = if f (hAt L k) then wonTo L f k else wonTo L f k ++ [hAt L k] := by
  unfold wonTo
  rw [take_snocH L k h, List.filter_append]
  cases g : f (hAt L k) <;> simp [g]
theorem wonTo_len (L : List Hp) (f : Hp → Bool) (k : Nat) : (wonTo L f k).length ≤ k := by
  unfold wonTo
  have := List.length_filter_le (fun x => !f x) (L.take k)
  have := List.length_take_le k L
  omega
theorem wonTo_all (L : List Hp) (f : Hp → Bool) : wonTo L f L.length = L.filter fun x => !f x := by unfold wonTo; rw [List.take_length]
theorem wonTo_pre (L : List Hp) (f : Hp → Bool) (k : Nat) : wonTo L f k <+: L.filter fun x => !f x := by
  unfold wonTo
  conv => rhs; rw [← List.take_append_drop k L, List.filter_append]
  exact List.prefix_append _ _
/-- What the iterator needs of the world. -/
def InvG (Inv : World → Prop) (mf : Nat) (mc : Array Value) (wf : Nat) (wc : Array Value) (h : Hp) (Bg Bh : Nat) (A : World) : Prop :=
  Inv A ∧ Blk A Bg 65 (gmC mf mc wf wc) ∧ Blk A Bh 60 (hC h)
theorem blk_grown {A B : World} {row : Option Nat} {k : Nat} {t : TypeId} {cs : Array Value} (h : Blk A k t cs) (hg : A.grownBy B row) (hne : some k ≠ row) : Blk B k t cs := (hg.block _ h.lt hne).trans h
set_option maxRecDepth 100000 in
set_option maxHeartbeats 4000000 in
theorem winning1_G (row : Option Nat) (Inv : World → Prop) (mf : Nat) (mc : Array Value) (wf : Nat) (wc : Array Value) (h : Hp) (L : List Hp) (f : Hp → Bool) (Bg Bh : Nat)
    (hmf : ∀ args W, (callFunc mf args).run Try.prog W = .ok (.enter mf args) W) (hwf : ∀ args W, (callFunc wf args).run Try.prog W = .ok (.enter wf args) W)
    (M : ∀ A, Inv A → Calls Try.prog mf (#[hV h] ++ mc) A (NewH L A))
    (V : ∀ A x, x ∈ L → Inv A → Calls Try.prog wf (#[hV x] ++ wc) A fun e B => e = .returned (.bool (f x)) ∧ A.grownBy B row ∧ Inv B)
    (hI : ∀ A B, Inv A → A.grownBy B none → Inv B) (hr : ∀ A r, Inv A → row = some r → r < A.heap.size) (hg : some Bg ≠ row) (hh : some Bh ≠ row) (hn : L.length ≤ 1000) :
    SeqG row (InvG Inv mf mc wf wc h Bg Bh) KpH Fence.wide 10 Try.prog 80 #[.pointer (some ⟨Bg, 0, none⟩), .pointer (some ⟨Bh, 0, none⟩)] (fun x : Hp => #[hV x])
      (fun ys => ys = L.filter fun x => !f x) (fun pre => pre <+: L.filter fun x => !f x) L.length := by
  intro l J Jx W hJI hJg hY h0
  have hro : Fence.wide.round = none := rfl
  obtain ⟨hi0, hbg0, hbh0⟩ := hJI _ _ h0
  have hIG : ∀ A B, InvG Inv mf mc wf wc h Bg Bh A → A.grownBy B none → InvG Inv mf mc wf wc h Bg Bh B := fun A B ha hab => ⟨hI A B ha.1 hab, blk_grown ha.2.1 hab (by simp), blk_grown ha.2.2 hab (by simp)⟩
  have M0 := Lib.hid (M W hi0)
  obtain ⟨g0, g1⟩ := hbg0.c2f
  obtain ⟨e0, e1, e2, e3, e4, e5, e6⟩ := hbh0.c7
  have hbg0 := Lib.hid hbg0
  have hbh0 := Lib.hid hbh0
  have M := Lib.hid M
  have V := Lib.hid V
  have hI := Lib.hid hI
  have hr := Lib.hid hr
  have hJI := Lib.hid hJI
  have hJg := Lib.hid hJg
  have hY := Lib.hid hY
  have hIG := Lib.hid hIG
  have hi0 := Lib.hid hi0
  have h0 := Lib.hid h0
  obtain ⟨n, hnn⟩ : ∃ n, Hid (L.length = n) := ⟨_, Lib.hid rfl⟩
  rw [hnn.out] at hn
  refine callsIn_of_wp Try.func80 rfl trivial ?_ hro
  simp only [Try.ntmps80, List.size_toArray, List.length_cons, List.length_nil, Nat.reduceAdd, Nat.reduceSub, Array.replicate_succ, Array.replicate_zero, List.push_toArray, List.append_toArray, List.nil_append, List.cons_append]
  gi_wp2_with (refine ⟨trivial, (callsIn_wide.2 M0.out).mono ?_⟩; rintro e w1 ⟨a, c, rfl, hc, ha, B1⟩; rw [hnn.out] at hc ha ⊢)
  clear g0 g1 e0 e1 e2 e3 e4 e5 e6
  have k1 := Lib.hid (grown_below B1 row)
  have iv1 : Hid (InvG Inv mf mc wf wc h Bg Bh w1) := Lib.hid (hIG.out _ _ (hJI.out _ _ h0.out) (grown_below B1 none))
  have j1 : Hid (J [] w1) := Lib.hid (hJg.out _ _ _ h0.out k1.out iv1.out)
  by_cases hn0 : n = 0
  · subst hn0
    have hL : L = [] := List.eq_nil_of_length_eq_zero hnn.out
    gi_loopw [5, 11] (fun _ i wr => i = .int .i64 0 ∧ J [] wr) (fun _ _ _ => 0)
    case atStart => exact ⟨rfl, j1.out⟩
    case round =>
      obtain ⟨rfl, hj⟩ := hrel
      replace hj := Lib.hid hj
      gi_wp2
      go_end0
      exact ⟨⟨_, rfl⟩, .inl ⟨[], by rw [hL]; rfl, hj.out⟩⟩
  · obtain ⟨g, rfl, hgs, hgb⟩ := ha (by omega)
    have hgs := Lib.hid hgs
    have hgb := Lib.hid hgb
    clear ha
    gi_loopw [5, 11] (fun _ i wr => ∃ k : Nat, k ≤ n ∧ i = .int .i64 k ∧ J (wonTo L f k) wr ∧ HBlk wr g L) (fun _ i _ => n - (intOf i).toNat)
    case atStart => exact ⟨0, by omega, rfl, j1.out, hgb.out⟩
    case round =>
      obtain ⟨k, hk, rfl, hj, hb⟩ := hrel
      by_cases hlt : k < n
      · have hi1 : (k : Int) < (n : Int) := by omega
        have hkl : k < L.length := by rw [hnn.out]; exact hlt
        obtain ⟨c0, c1, c2, c3, c4, c5, c6⟩ := hb.c7 hkl
        have hmem := Lib.hid (hAt_mem hkl)
        have hst := Lib.hid (wonTo_succ L f k hkl)
        have hlen : Hid ((wonTo L f k).length < L.length) := Lib.hid (by have := wonTo_len L f k; omega)
        have hj' := Lib.hid hj
        have hb' := Lib.hid hb
        clear hj hb hkl
        obtain ⟨x, hx⟩ : ∃ x, Hid (hAt L k = x) := ⟨_, Lib.hid rfl⟩
        rw [hx.out] at c0 c1 c2 c3 c4 c5 c6 hmem hst
        have hgr := grown_below (b1 wr (.cells (hC x) 60)) none
        have hbx := Lib.hid (Blk.new wr 60 (hC x))
        have iv2 : Hid (InvG Inv mf mc wf wc h Bg Bh (wr.alloc (.cells (hC x) 60))) := Lib.hid (hIG.out _ _ (hJI.out _ _ hj'.out) hgr)
        have j2 : Hid (J (wonTo L f k) (wr.alloc (.cells (hC x) 60))) := Lib.hid (hJg.out _ _ _ hj'.out (grown_below (b1 _ _) row) iv2.out)
        have hb2 : Hid (HBlk (wr.alloc (.cells (hC x) 60)) g L) := Lib.hid (hb'.out.keep (fun _ z => z.alloc _))
        have hne : Hid (some wr.heap.size ≠ row) := Lib.hid (fun e => by have := hr.out _ _ (hJI.out _ _ hj'.out).1 e.symm; omega)
        have hg2 : Hid (some g ≠ row) := Lib.hid (fun e => by have := hr.out _ _ (hJI.out _ _ h0.out).1 e.symm; have := hgs.out; omega)
        clear hgr
        have V2 := Lib.hid (V.out _ x hmem.out iv2.out.1)
        have q1 := iv2.out.2.1.c2f.2
        cases hf : f x
        · rw [hf] at V2 hst
          have hst2 : Hid (wonTo L f (k + 1) = wonTo L f k ++ [x]) := Lib.hid (by rw [hst.out]; simp)
          have V3 := Lib.hid V2.out
          clear hf
          gi_wp2_with (first | (refine ⟨trivial, (callsIn_wide.2 V3.out).mono ?_⟩; rintro e w3 ⟨rfl, hg3, hi3⟩; have iv3 : Hid (InvG Inv mf mc wf wc h Bg Bh w3) := Lib.hid (⟨hi3, blk_grown iv2.out.2.1 hg3 hg, blk_grown iv2.out.2.2 hg3 hh⟩); have j3 : Hid (J (wonTo L f k) w3) := Lib.hid (hJg.out _ _ _ j2.out hg3 iv3.out); have hb3 : Hid (HBlk w3 g L) := Lib.hid (hb2.out.keep (fun _ z => blk_grown z hg3 hg2.out)); obtain ⟨d0, d1, d2, d3, d4, d5, d6⟩ := (blk_grown hbx.out hg3 hne.out).c7; replace hg3 := Lib.hid hg3; replace hi3 := Lib.hid hi3; obtain ⟨fn, tmps, assign, body, hy, hR⟩ := hY.out _ x w3 j3.out hlen.out; replace hR := Lib.hid hR))
          refine hR.out.mono ?_
          rintro e w4 (⟨rfl, hj4, hk4⟩ | ⟨rfl, hjx⟩)
          · have hj4 := Lib.hid hj4
            have hb4 := Lib.hid (hb3.out.keep (hk4 g))
            clear hk4
            gi_wp2
            go_roundw
            case rel => exact ⟨k + 1, by omega, by go_num, by rw [hst2.out]; exact hj4.out, hb4.out⟩
            case measure => simp [intOf]; omega
          · have hjx := Lib.hid hjx
            gi_wp2
            refine bodyPost_ret (results_none rfl _ _ _) rfl ?_
            exact ⟨⟨_, rfl⟩, .inr ⟨_, by rw [← hst2.out]; exact wonTo_pre L f (k + 1), hjx.out⟩⟩
        · rw [hf] at V2 hst
          have hst2 : Hid (wonTo L f (k + 1) = wonTo L f k) := Lib.hid (by rw [hst.out]; simp)
          have V3 := Lib.hid V2.out
          clear hf
          gi_wp2_with (first | (refine ⟨trivial, (callsIn_wide.2 V3.out).mono ?_⟩; rintro e w3 ⟨rfl, hg3, hi3⟩; have iv3 : Hid (InvG Inv mf mc wf wc h Bg Bh w3) := Lib.hid (⟨hi3, blk_grown iv2.out.2.1 hg3 hg, blk_grown iv2.out.2.2 hg3 hh⟩); have j3 : Hid (J (wonTo L f k) w3) := Lib.hid (hJg.out _ _ _ j2.out hg3 iv3.out); have hb3 : Hid (HBlk w3 g L) := Lib.hid (hb2.out.keep (fun _ z => blk_grown z hg3 hg2.out)); replace hg3 := Lib.hid hg3; replace hi3 := Lib.hid hi3))
          refine ⟨(fun _ hh => by cases hh), ?_⟩
          gi_wp2
          go_roundw
          case rel => exact ⟨k + 1, by omega, by go_num, by rw [hst2.out]; exact j3.out, hb3.out⟩
          case measure => simp [intOf]; omega
      · obtain rfl : k = n := by omega
        have hj' := Lib.hid hj
        clear hj hb
        gi_wp2
        go_end0
        exact ⟨⟨_, rfl⟩, .inl ⟨_, by rw [← hnn.out]; exact wonTo_all L f, hj'.out⟩⟩
end Go.Proofs.Ytdafpjapepfniaa
