/- Layer 7, by the program: Lost. -/
import Derived.Test.YtdafpjapepfniaaWs
namespace Go.Proofs.Ytdafpjapepfniaa
open Go Go.RowKit

/-- The bars from which the player who is next loses, of the first k. -/
def lostTo (R C k : Nat) : List (Nat → Nat) := ((brs R C).take k).filter fun f => !cWin f
def lostL (R C : Nat) : List (Nat → Nat) := (brs R C).filter fun f => !cWin f
theorem lostTo_succ {R C k : Nat} (h : k < (brs R C).length) : lostTo R C (k + 1) = if cWin (fAt (brs R C) k) then lostTo R C k else lostTo R C k ++ [fAt (brs R C) k] := by
  unfold lostTo
  have e : (brs R C)[k] = fAt (brs R C) k := by simp [fAt, h]
  rw [List.take_succ_eq_append_getElem h, List.filter_append, e]
  cases g : cWin (fAt (brs R C) k) <;> simp [g]
theorem lostTo_len (R C k : Nat) : (lostTo R C k).length ≤ k := by
  unfold lostTo
  have := List.length_filter_le (fun f => !cWin f) ((brs R C).take k)
  have := List.length_take_le k (brs R C)
  omega
theorem lostTo_all (R C : Nat) : lostTo R C (brs R C).length = lostL R C := by unfold lostTo; rw [List.take_length]; rfl
/-- A row of numbers. -/
def rowL (f : Nat → Nat) (n : Nat) : List Int := (List.range n).map fun i => (f i : Int)
theorem rowL_len (f : Nat → Nat) (n : Nat) : (rowL f n).length = n := by simp [rowL]
theorem rowL_nth {f : Nat → Nat} {n i : Nat} (h : i < n) : nth (rowL f n) i = (f i : Int) := by simp [nth, rowL, h]
/-- A table of bars was returned. -/
def LostR (R : Nat) (l : List (Nat → Nat)) (w : World) (e : Ending) (w' : World) : Prop := ∃ v G, e = .returned (.tuple #[v, .int .i64 0]) ∧ G.length = l.length ∧ w'.ownsRow w.heap.size 22 1 v G.length (rowsV R G) ∧ TabB w.heap.size R l w' G ∧ Below w.heap.size w w'
theorem ints_bar {W : World} {B : Nat} {t : TypeId} {f : Nat → Nat} (h : Blk W B t (hC (barH f))) {n : Nat} (hn : n ≤ 6) : Ints W (some ⟨B, 0, none⟩) (rowL f n) := by
  refine .inr ⟨B, 0, rfl, fun i hi => ?_⟩
  rw [rowL_len] at hi
  rw [Nat.zero_add, rowL_nth hi, cellK h (by omega)]
theorem own_slice {w : World} {base n size : Nat} {e : TypeId} {v : Value} {xs : List Value} (h : w.ownsRow base e size v n xs) : ∃ a c, v = .slice a n c ∧ n ≤ c := by
  rcases h.2 with ⟨h, h2⟩ | ⟨g, cap, cur, h, _, _, h3, _⟩
  · exact ⟨none, 0, by rw [h, h2], by omega⟩
  · exact ⟨_, _, h, h3⟩
theorem alen6 : Try.prog.arrayLen 58 = 6 := by kernel_rfl
theorem sliceA6 (b R : Nat) (w : World) (hR : R ≤ 6) : (Instr.sliceAt 58 (.pointer (some ⟨b, 0, none⟩)) none (some (.int .i64 (R : Int))) none).run Try.prog w = .ok (.slice (some ⟨b, 0, none⟩) R 6) w := by
  have ht : Try.prog.underlying 58 = some (.array (Try.prog.arrayLen 58) (Try.prog.elem 58)) := by kernel_rfl
  have he : Try.prog.elem 58 = 3 := by kernel_rfl
  have z3 := Try.sizeOf3
  have h := alen6
  rw [run_sliceAt_array_h w _ _ ht .i64 R (by omega) (by rw [h]; omega), he, z3, Result.andThen_ok, h]
  unfold slicedAt
  by_cases h6 : R = 0 <;> simp [Addr.add]
set_option maxRecDepth 100000 in
set_option maxHeartbeats 4000000 in
theorem Lost_yes (R C : Nat) (w : World) (h1 : 1 ≤ R) (hR : R ≤ 6) (h1' : 1 ≤ C) (hC7 : C ≤ 7) (h24 : R * C ≤ 24) : Calls Try.prog 33 #[.int .i64 (R : Int), .int .i64 (C : Int)] w (LostR R (lostL R C) w) := by
  obtain ⟨i0, hi, hz0, hz1, hz2⟩ := info_parts infoInts
  have G0 := Lib.hid hi
  have G1 := Lib.hid hz0
  have G2 := Lib.hid hz1
  have G3 := Lib.hid hz2
  clear hi hz0 hz1 hz2
  have S := fun W => sizeError_any (R : Int) (C : Int) W
  have hE : szE (R : Int) (C : Int) = 0 := by
    unfold szE
    rw [if_neg (by omega), if_neg (by rw [← Int.natCast_mul]; omega)]
  rw [hE] at S
  replace S := Lib.hid S
  have hB := Lib.hid (fun W => bars_any R C W hR hC7)
  have hlen := brs_lt (k := R) (C := C) hR hC7
  have hall := Lib.hid (lostTo_all R C)
  have hsu := Lib.hid (fun k (h : k < (brs R C).length) => lostTo_succ h)
  have hK := Lib.hid (fun f (h : f ∈ brs R C) => (brs_isK R C f h).isB hR hC7)
  have hl0 := Lib.hid (lostTo_len R C)
  clear hE h24
  obtain ⟨N, hN⟩ : ∃ N, Hid ((brs R C).length = N) := ⟨_, Lib.hid rfl⟩
  have hmap : Hid ((bH (brs R C)).length = N) := Lib.hid (by rw [bH, List.length_map, hN.out])
  rw [hN.out] at hall hlen
  go_enter Try.func33, Try.ntmps33
  go_wp2_with (first
    | (go_at_call 67; refine (S.out _).mono ?_; rintro e w1 ⟨rfl, rfl⟩)
    | (go_at_call 56; refine (chomp_any _).mono ?_; rintro e w2 ⟨Bm, B1, B2, rfl, hA, hI, hb2, hBm⟩; have hA := Lib.hid hA; have hI := Lib.hid hI; have hb2 := Lib.hid hb2)
    | (go_at_call 68; refine (hB.out _).mono ?_; rintro e w3 ⟨a, cap, rfl, hcap, hH, hb3⟩; rw [hmap.out] at hcap hH ⊢))
  have k7 := Lib.hid ((Blk.new w2 65 (chC B1 B2)).ext hb3)
  have hI3 := Lib.hid (hI.out.grown hA.out (r := none) (fun k e => by cases e) (grown_below (nextB (b1 w2 (.cells (chC B1 B2) 65)) hb3) none))
  have hb3' := Lib.hid (nextB (nextB hb2.out (b1 w2 (.cells (chC B1 B2) 65))) hb3)
  have hlm := hA.out.lm
  have hs3 : w2.heap.size + 1 ≤ w3.heap.size := by have := hb3.size; rwa [World.size_alloc] at this
  have hH' : Hid (0 < N → ∃ g, a = some ⟨g, 0, none⟩ ∧ w2.heap.size + 1 ≤ g ∧ HBlk w3 g (bH (brs R C))) := Lib.hid (fun h => by obtain ⟨g, q1, q2, q3⟩ := hH h; rw [World.size_alloc] at q2; exact ⟨g, q1, q2, q3⟩)
  clear hb3 hH
  go_loopw [8, 10, 22] (fun v _ i wr => ∃ k : Nat, k ≤ N ∧ i = .int .i64 k ∧ ∃ G, G.length = (lostTo R C k).length ∧ wr.ownsRow w3.heap.size 22 1 v G.length (rowsV R G) ∧ TabB w3.heap.size R (lostTo R C k) wr G ∧ w3.grownBy wr (some Bm) ∧ InvC w2.heap.size Bm B1 B2 wr) (fun _ _ i _ => N - (intOf i).toNat)
  case atStart => exact ⟨0, by omega, rfl, [], rfl, World.ownsRow_nil _ _ _ _, TabB.nil _ _ _ _, World.grownBy.refl _ _, hI3.out⟩
  case round =>
    clear hI3
    obtain ⟨k, hk, rfl, G, hG, hown, hT, hgr, hIk⟩ := hrel
    have hgs := hgr.size
    by_cases hlt : k < N
    · have hlt' : (k : Int) < (N : Int) := by omega
      obtain ⟨g, rfl, hg1, hgb⟩ := hH'.out (by omega)
      have hkl : k < (brs R C).length := by rw [hN.out]; exact hlt
      have hgb2 : HBlk wr g (bH (brs R C)) := hgb.keep (fun _ z => blk_grown z hgr (fun e => by cases e; omega))
      obtain ⟨c0, c1, c2, c3, c4, c5, c6⟩ := hgb2.c7 (i := k) (by rw [hmap.out]; exact hlt)
      rw [hAt_bH hkl] at c0 c1 c2 c3 c4 c5 c6
      have hf := Lib.hid (hK.out _ (fAt_mem hkl))
      have hst := Lib.hid (hsu.out k hkl)
      have hll := hl0.out k
      obtain ⟨f, hff⟩ : ∃ f, Hid (fAt (brs R C) k = f) := ⟨_, Lib.hid rfl⟩
      rw [hff.out] at c0 c1 c2 c3 c4 c5 c6 hf hst
      have hgr1 : w3.grownBy (wr.alloc (.cells (hC (barH f)) 60)) (some Bm) := hgr.trans (World.grownBy_alloc _ _ _)
      have k71 := blk_grown k7.out hgr1 (fun e => by cases e; omega)
      have q1 := k71.c2f.2
      have hI1 := hIk.grown hA.out (r := none) (fun k e => by cases e) (World.grownBy_alloc wr (.cells (hC (barH f)) 60) none)
      have V := Lib.hid (wins_any w2.heap.size Bm B1 B2 hA.out (tot f) f (Nat.le_refl _) hf.out _ hI1)
      have hbx := Lib.hid (Blk.new wr 60 (hC (barH f)))
      have hT1 := Lib.hid (hT.next (b1 wr (.cells (hC (barH f)) 60)))
      have hown1 := Lib.hid (hown.alloc (.cells (hC (barH f)) 60))
      have hgr1 := Lib.hid hgr1
      have hgB : w3.heap.size ≤ wr.heap.size := hgs
      have hst' := hst
      clear hT hown hgr hIk k71 hgb hgb2 hI1 hkl
      cases hw : cWin f
      · rw [hw] at V
        replace hst : Hid (lostTo R C (k + 1) = lostTo R C k ++ [f]) := Lib.hid (by rw [hst'.out, hw]; rfl)
        replace hw := Lib.hid hw
        clear hst'
        obtain ⟨n, hn⟩ : ∃ n, Hid (G.length = n) := ⟨_, Lib.hid rfl⟩
        have hn2 : n ≤ 262144 := by rw [← hn.out, hG]; omega
        have hG' := Lib.hid hG
        clear hG
        obtain ⟨a1, cap1, rfl, hcap1⟩ := own_slice hown1.out
        rw [hn.out] at hcap1 ⊢
        have hrl := Lib.hid (rowL_len f R)
        have hsa := fun W => sliceA6 wr.heap.size R W hR
        go_wp2_with (first
          | (go_at_call 64; refine (hCp.out).mono ?_; rintro e w5 ⟨g5, c5, rfl, hc5, hg5, hx5, hb5⟩; rw [hrl.out] at hc5 hx5 ⊢; have hown5 := owns_next hown4.out hb5; have hx5 := Lib.hid hx5; have hs5 := hb5.size; have hc1 := Lib.hid (cell_val_new w5 (.slice (some ⟨g5, 0, none⟩) R c5) 22); replace hb5 := Lib.hid hb5)
          | (at_builtin; refine wpList_append_own _ rfl _ _ 41 rfl w3.heap.size 22 i0 (.slice none 0 0) 1 24 Try.underlying41 G0.out G1.out G2.out G3.out rfl (by decide) _ _ _ rfl (hown5.alloc _) ⟨_, 0, none⟩ 1 1 [.slice (some ⟨g5, 0, none⟩) R c5] rfl rfl hc1.out (by simp [Value.oneCell']) (by unfold maxLen; omega) (by omega) (by simp; omega) ?_; intro v' w6 hown6 hgrow _)
          | (refine V.out.mono ?_; rintro e w4 ⟨rfl, hg4, hI4⟩; have hbx4 := blk_grown hbx.out hg4 (fun e => by cases e; omega); obtain ⟨d0, d1, d2, d3, d4, d5, d6⟩ := hbx4.c7; have hCp := Lib.hid (copy_any wr.heap.size 0 R 6 (rowL f R) w4 (ints_bar hbx4 hR) hrl.out (by omega) (by omega)); have hT4 := Lib.hid (hT1.out.keep hg4 (fun r hr e => by have := (hT1.out.1 r hr).1; cases e; omega)); have hown4 : Hid (w4.ownsRow w3.heap.size 22 1 (.slice a1 n cap1) n (rowsV R G)) := Lib.hid (by have := hown1.out.kept hg4 (.inr fun e => by have := (hown1.out.lt _ e).1; omega); rw [hn.out] at this; exact this); have hs4 : wr.heap.size < w4.heap.size := (by have := hg4.size; rw [World.size_alloc] at this; omega); clear hbx4; replace hg4 := Lib.hid hg4; replace hI4 := Lib.hid hI4))
        have hgr5 := (hgr1.out.trans hg4.out).trans (grown_below hb5.out (some Bm))
        have hs6 := hgrow.size
        have e5 : (w5.alloc (.cells #[.slice (some ⟨g5, 0, none⟩) R c5] 22)).heap.size = w5.heap.size + 1 := by simp
        have ho5 := fun q hq => (hown5.lt q hq)
        have hgr6 : w3.grownBy w6 (some Bm) := (hgr5.trans (World.grownBy_alloc _ _ _)).andThen hgrow (fun j e => .inl (by have := (ho5 j e).1; omega))
        have hI6 : InvC w2.heap.size Bm B1 B2 w6 := ((hI4.out.grown hA.out (r := none) (fun k e => by cases e) (grown_below hb5.out none)).grown hA.out (r := none) (fun k e => by cases e) (World.grownBy_alloc _ _ _)).grown hA.out (fun k e => by have := (ho5 k e).1; omega) hgrow
        have hT5 := (hT4.out.next hb5.out)
        have hT6 := (hT5.next (b1 _ (.cells #[.slice (some ⟨g5, 0, none⟩) R c5] 22))).keep hgrow (fun r hr => hT5.apart (by omega) hn.out.symm hown5 hr)
        have hx6 : ∀ i, i < R → w6.cell? ⟨g5, i, none⟩ = some (.int .i64 (f i : Int)) := fun i hi => by
          have h1 := hx5.out i hi
          rw [rowL_nth hi] at h1
          have h2 := cellB (b1 w5 (.cells #[.slice (some ⟨g5, 0, none⟩) R c5] 22)) h1
          exact hgrow.cell h2 (fun e => by
            have := (hown4.out.lt g5 e.symm).2
            omega)
        have hz5 : ∀ r, r < G.length → (gth G r).1 < w4.heap.size := fun r hr => hT4.out.lt (by omega) hr
        go_roundw
        case rel => exact ⟨k + 1, by omega, by go_num, G ++ [(g5, c5)], by rw [hst.out, List.length_append, List.length_append, hG'.out]; rfl, by rw [List.length_append, hn.out, rowsV_snoc]; exact hown6, by rw [hst.out]; exact hT6.snoc hG'.out hz5 hg5 (by omega) hc5 hx6, hgr6, hI6⟩
        case measure => simp [intOf]; omega
      · rw [hw] at V
        replace hst : Hid (lostTo R C (k + 1) = lostTo R C k) := Lib.hid (by rw [hst'.out, hw]; rfl)
        replace hw := Lib.hid hw
        clear hst'
        go_wp2_with (refine V.out.mono ?_; rintro e w4 ⟨rfl, hg4, hI4⟩; replace hg4 := Lib.hid hg4; replace hI4 := Lib.hid hI4)
        go_roundw
        case rel => exact ⟨k + 1, by omega, by go_num, G, by rw [hst.out]; exact hG, hown1.out.kept hg4.out (.inr fun e => by have := (hown1.out.lt _ e).1; omega), by rw [hst.out]; exact hT1.out.keep hg4.out (fun r hr e => by have := (hT1.out.1 r hr).1; cases e; omega), hgr1.out.trans hg4.out, hI4.out⟩
        case measure => simp [intOf]; omega
    · obtain rfl : k = N := by omega
      have hT := Lib.hid hT
      have hown := Lib.hid hown
      have hgr := Lib.hid hgr
      go_wp2
      go_ret2
      have hs0 := hb3'.out.size
      refine ⟨_, G, rfl, by rw [hG, hall.out], owns_base hown.out hs0, ⟨fun r hr => ?_, hT.out.2⟩, hb3'.out.trans ?_⟩
      · have := hT.out.1 r hr
        rw [hall.out] at this
        exact ⟨by omega, this.2⟩
      · exact ⟨hgr.out.os, hgr.out.tape, hgr.out.output, hgr.out.size, fun i hi => hgr.out.block i (by omega) (fun e => by cases e; omega)⟩
end Go.Proofs.Ytdafpjapepfniaa
