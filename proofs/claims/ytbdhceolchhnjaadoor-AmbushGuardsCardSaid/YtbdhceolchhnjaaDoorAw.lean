/- Layer 4, by the program: the least pairing that goes on from some pairs. -/
import Derived.Test.YtbdhceolchhnjaaDoorAv
namespace Go.Proofs.YtbdhceolchhnjaaDoor
open Go Go.RowKit

theorem infoPairA : (Tryd.prog.info? 58).map (fun i => (i.zero, i.size, i.bytes)) = some (some (.agg #[.int .i64 0, .int .i64 0]), 2, 16) := by kernel_rfl
theorem cell_two_new (w : World) (a b : Int) (t : TypeId) : ∀ j u, [Value.int .i64 a, .int .i64 b][j]? = some u → (w.alloc (.cells #[.int .i64 a, .int .i64 b] t)).cell? (Addr.add ⟨w.heap.size, 0, none⟩ j) = some u := by
  intro j u hj
  have hl : j < 2 := (List.getElem?_eq_some_iff.1 hj).1
  have ha : Addr.add ⟨w.heap.size, 0, none⟩ j = ⟨w.heap.size, j, none⟩ := by first | (simp [Addr.add]; done) | (simp [Addr.add]; omega)
  rw [ha]
  exact (Blk.new w t _).c j (by rw [← hj]; simp)
/-- A row of pairs in block G, with room for cap of them. -/
def RowG (w : World) (G cap : Nat) (L : List (Int × Int)) : Prop := w.ownsRow 0 58 2 (.slice (some ⟨G, 0, none⟩) L.length cap) L.length (cP L)
theorem RowG.keep {w w' : World} {G cap : Nat} {L : List (Int × Int)} (h : RowG w G cap L) (hb : Below w.heap.size w w') : RowG w' G cap L := owns_next h hb
theorem RowG.lt {w : World} {G cap : Nat} {L : List (Int × Int)} (h : RowG w G cap L) : G < w.heap.size := (World.ownsRow.lt h G rfl).2
theorem RowG.room {w : World} {G cap : Nat} {L : List (Int × Int)} (h : RowG w G cap L) : L.length ≤ cap := by
  rcases h.2 with ⟨h1, _⟩ | ⟨g, cap', cur, h1, _, _, h2, _⟩
  · cases h1
  · simp only [Value.slice.injEq] at h1
    omega
/-- What lies ahead in the row. -/
theorem RowG.part {w : World} {G cap : Nat} {L M : List (Int × Int)} (h : RowG w G cap (L ++ M)) : RowG w G cap L := by
  have h0 := h.room
  obtain ⟨h1, h2⟩ := h
  rcases h2 with ⟨h2, _⟩ | ⟨g, cap', cur, hv, hg, hh, hc, hm, hs, ht⟩
  · cases h2
  · refine ⟨cP_length L, .inr ⟨g, cap', cur, ?_, hg, hh, ?_, hm, hs, ?_⟩⟩
    · simp only [Value.slice.injEq, Option.some.injEq] at hv ⊢
      exact ⟨hv.1, trivial, hv.2.2⟩
    · rw [List.length_append] at hc; omega
    · rw [cP_append] at ht
      have := congrArg (List.take (L.length * 2)) ht
      rw [List.take_take, List.length_append, show min (L.length * 2) ((L.length + M.length) * 2) = L.length * 2 by omega] at this
      rw [this, List.take_append_of_le_length (by rw [cP_length]; omega), List.take_of_length_le (by rw [cP_length]; omega)]
theorem RowG.prs {w : World} {G cap : Nat} {L : List (Int × Int)} (h : RowG w G cap L) : Prs w (some ⟨G, 0, none⟩) L := by
  refine .inr ⟨G, 0, rfl, fun i hi => ?_⟩
  obtain ⟨c1, c2⟩ := cP_at L i hi
  rw [Nat.zero_add, World.ownsRow.cellAt h _ (by omega), World.ownsRow.cellAt h _ (by omega)]
  exact ⟨c1, c2⟩
abbrev rowV (G cap : Nat) (L : List (Int × Int)) : Value := .slice (some ⟨G, 0, none⟩) L.length cap
/-- What complete returned: a longer row, or none: then the row is as it was. -/
def CompR (G cap : Nat) (now : List (Int × Int)) (res : Option (List (Int × Int))) (w : World) (e : Ending) (w' : World) : Prop :=
  Keep G w w' ∧ match res with
    | none => (∃ v, e = .returned (.tuple #[v, .bool false])) ∧ RowG w' G cap now
    | some r => e = .returned (.tuple #[rowV G cap r, .bool true]) ∧ RowG w' G cap r
/-- What holds when complete is called. -/
structure CompS (m : Nat) (a : Option Addr) (R : List Int) (G cap k : Nat) (now : List (Int × Int)) (av : Nat → Bool) (left : Nat) (w0 w : World) : Prop where
  below : Below w0.heap.size w0 w
  lo : w0.heap.size ≤ G
  ints : Ints w0 a R
  row : RowG w G cap now
  len : now.length + k = cap
  cap9 : cap ≤ 4
  ok : PairsOk now
  hleft : left < 512
  hav : ∀ i, i < m → left.testBit i = av i
set_option maxRecDepth 100000 in
theorem complete_zero (m : Nat) (a : Option Addr) (n c : Nat) (R : List Int) (G cap : Nat) (now : List (Int × Int)) (av : Nat → Bool) (left : Nat) (w0 w : World) (hF : FieldP m R) (hn : R.length = n) (h : CompS m a R G cap 0 now av left w0 w) :
    Calls Tryd.prog 79 #[fV m a n c, rowV G cap now, .int .i64 (left : Nat), .int .i64 0] w (CompR G cap now (pS m R 0 now av) w) := by
  have K := Lib.hid (fun W hI hP => guarded_any m a n c R (some ⟨G, 0, none⟩) now.length cap now W hI hn (by have := hF.few; omega) hF.sets hP rfl (by have := h.len; have := h.cap9; omega) h.ok)
  have hb := b1 w (.cells #[.int .i64 (m : Nat), .slice a n c] 60)
  have hA := Blk.new w 60 #[.int .i64 (m : Nat), .slice a n c]
  have hI := Lib.hid ((h.ints.next h.below).next hb)
  have hP := Lib.hid ((h.row.keep hb).prs)
  have hrow := Lib.hid (h.row.keep hb)
  have x0 : (w.alloc (.cells #[.int .i64 (m : Nat), .slice a n c] 60)).cell? ⟨w.heap.size, 0, none⟩ = some (.int .i64 (m : Nat)) := hA.c 0 rfl
  have x1 : (w.alloc (.cells #[.int .i64 (m : Nat), .slice a n c] 60)).cell? ⟨w.heap.size, 1, none⟩ = some (.slice a n c) := hA.c 1 rfl
  clear hA h hn
  obtain ⟨q, hq⟩ : ∃ q, Hid (pS m R 0 now av = q) := ⟨_, Lib.hid rfl⟩
  have hq2 : Hid (q = if guardB R now then some now else none) := Lib.hid (by rw [← hq.out]; rfl)
  rw [hq.out]
  replace hF := Lib.hid hF
  replace hb := Lib.hid hb
  cases g : guardB R now
  all_goals
    rw [g] at K hq2
    replace hq2 := Lib.hid (hq2.out.trans (by simp only [Bool.false_eq_true, if_false, if_true]; rfl))
    go_enter Tryd.func79, Tryd.ntmps79
    go_wp2_with (go_at_call 81; refine (K.out _ hI.out hP.out).mono ?_; rintro e w2 ⟨rfl, hb2⟩)
    go_ret2
    unfold CompR
    rw [hq2.out]
  · exact ⟨Keep.of (nextB hb.out hb2), ⟨_, rfl⟩, (hrow.out.keep hb2)⟩
  · exact ⟨Keep.of (nextB hb.out hb2), rfl, (hrow.out.keep hb2)⟩
/-- The spots that are left, as a number. -/
def cutN (left a b : Nat) : Nat := dif (dif left (pw a ||| pw b)) (pw a - 1)
theorem cutN_test (left a b i : Nat) : (cutN left a b).testBit i = (left.testBit i && !(decide (a = i) || decide (b = i)) && !(decide (i < a))) := by
  unfold cutN
  rw [dif_test, dif_test, full_test]
  congr 3
  rw [Nat.testBit_or]; unfold pw; rw [Nat.testBit_two_pow, Nat.testBit_two_pow]
theorem cutN_le (left a b : Nat) : cutN left a b ≤ left := Nat.le_trans (dif_le _ _) (dif_le _ _)
def fB (m : Nat) (R : List Int) (j : Nat) (now : List (Int × Int)) (av : Nat → Bool) (a b : Nat) : Option (List (Int × Int)) := if av a && av b then pS m R j (now ++ [((a : Int), (b : Int))]) (cutA av a b) else none
def fA (m : Nat) (R : List Int) (j : Nat) (now : List (Int × Int)) (av : Nat → Bool) (a : Nat) : Option (List (Int × Int)) := rowS m (fB m R j now av a) (a + 1)
theorem pS_succ (m : Nat) (R : List Int) (j : Nat) (now : List (Int × Int)) (av : Nat → Bool) : pS m R (j + 1) now av = rowS m (fA m R j now av) 0 := rfl
set_option maxRecDepth 100000 in
set_option maxHeartbeats 8000000 in
theorem complete_step (m : Nat) (a : Option Addr) (n c : Nat) (R : List Int) (G cap j : Nat) (now : List (Int × Int)) (av : Nat → Bool) (left : Nat) (w0 w : World) (hF : FieldP m R) (h : CompS m a R G cap (j + 1) now av left w0 w)
    (IH : ∀ now' av' left' w', CompS m a R G cap j now' av' left' w0 w' → Calls Tryd.prog 79 #[fV m a n c, rowV G cap now', .int .i64 (left' : Nat), .int .i64 (j : Nat)] w' (CompR G cap now' (pS m R j now' av') w')) :
    Calls Tryd.prog 79 #[fV m a n c, rowV G cap now, .int .i64 (left : Nat), .int .i64 ((j + 1 : Nat) : Int)] w (CompR G cap now (pS m R (j + 1) now av) w) := by
  obtain ⟨i0, hi, hz0, hz1, hz2⟩ := info_parts infoPairA
  have G0 := Lib.hid hi
  have G2 := Lib.hid hz1
  clear hi hz0 hz1 hz2
  rw [pS_succ]
  have hm9 := hF.le
  have hm1 := hF.pos
  have hlc := h.len
  have hc9 := h.cap9
  have hl512 := h.hleft
  have hGl := h.row.lt
  have hG0 := h.lo
  have hbw0 := Lib.hid h.below
  have hints := Lib.hid h.ints
  have hok := Lib.hid h.ok
  have hav := Lib.hid h.hav
  replace IH := Lib.hid IH
  obtain ⟨q, hq⟩ : ∃ q, Hid (rowS m (fA m R j now av) 0 = q) := ⟨_, Lib.hid rfl⟩
  rw [hq.out]
  have hb := b1 w (.cells #[.int .i64 (m : Nat), .slice a n c] 60)
  have hA := Blk.new w 60 #[.int .i64 (m : Nat), .slice a n c]
  have hrow := h.row.keep hb
  clear h
  have hj1 : ((((j + 1 : Nat) : Int)) == 0) = false := by rw [beq_eq_false_iff_ne]; omega
  have hjs : IntKind.i64.wrap (((j + 1 : Nat) : Int) - 1) = ((j : Nat) : Int) := by rw [IntWalk.i64_in _ (by omega)]; omega
  obtain ⟨j1, hj1e⟩ : ∃ j1 : Nat, Hid (j + 1 = j1) := ⟨_, Lib.hid rfl⟩
  rw [hj1e.out] at hj1 hjs ⊢
  have x0 : (w.alloc (.cells #[.int .i64 (m : Nat), .slice a n c] 60)).cell? ⟨w.heap.size, 0, none⟩ = some (.int .i64 (m : Nat)) := hA.c 0 rfl
  have x1 : (w.alloc (.cells #[.int .i64 (m : Nat), .slice a n c] 60)).cell? ⟨w.heap.size, 1, none⟩ = some (.slice a n c) := hA.c 1 rfl
  replace hA := Lib.hid hA
  replace hrow := Lib.hid hrow
  go_enter Tryd.func79, Tryd.ntmps79
  go_wp2
  have hkw := Lib.hid (Keep.of (B := G) hb)
  have hszw := hb.size
  have hfl := hA.out.lt
  clear x0 x1
  generalize w.alloc (.cells #[.int .i64 (m : Nat), .slice a n c] 60) = w1 at *
  clear hb
  have hbw1 := Lib.hid (hkw.out.below hbw0.out hG0)
  go_loopw [10, 11, 12, 13, 14, 23] (fun _ _ _ _ _ i wr => ∃ k : Nat, k ≤ m ∧ i = .int .i64 k ∧ rowS m (fA m R j now av) k = q ∧ RowG wr G cap now ∧ Keep G w1 wr) (fun _ _ _ _ _ i _ => m - (intOf i).toNat)
  case atStart => exact ⟨0, by omega, rfl, hq.out, hrow.out, Keep.refl _ _⟩
  case round =>
    clear hrow
    obtain ⟨k, hk, rfl, hres, hrow, hK⟩ := hrel
    replace hrow := Lib.hid hrow
    by_cases hlt : k < m
    · have hki : (k : Int) < (m : Int) := by omega
      have hk1 : IntKind.i64.wrap ((k : Int) + 1) = ((k + 1 : Nat) : Int) := by rw [IntWalk.i64_in _ (by omega)]; omega
      have hres2 := Lib.hid ((rowS_step (fA m R j now av) hlt).symm.trans hres)
      replace hres := Lib.hid hres
      replace hK := Lib.hid hK
      go_wp2
      go_loopw [11, 12, 13, 14] (fun i _ _ _ wr => ∃ b : Nat, k < b ∧ b ≤ m ∧ i = .int .i64 b ∧ (rowS m (fB m R j now av k) b).or (rowS m (fA m R j now av) (k + 1)) = q ∧ RowG wr G cap now ∧ Keep G w1 wr) (fun i _ _ _ _ => m - (intOf i).toNat)
      case atStart => exact ⟨k + 1, by omega, by omega, by go_num, hres2.out, hrow.out, hK.out⟩
      case round =>
        clear hrow hK
        obtain ⟨b, hb0, hb1, rfl, hr3, hrow, hK⟩ := hrel
        have hA2 := hK.blk (by omega) hA.out
        have x0 : wr.cell? ⟨w.heap.size, 0, none⟩ = some (.int .i64 (m : Nat)) := hA2.c 0 rfl
        have x1 : wr.cell? ⟨w.heap.size, 1, none⟩ = some (.slice a n c) := hA2.c 1 rfl
        replace hA2 := Lib.hid hA2
        replace hrow := Lib.hid hrow
        replace hK := Lib.hid hK
        by_cases hbm : b < m
        · have hbi : (b : Int) < (m : Int) := by omega
          have hbs : IntKind.i64.wrap ((b : Int) + 1) = ((b + 1 : Nat) : Int) := by rw [IntWalk.i64_in _ (by omega)]; omega
          have hr4 : Hid (((fB m R j now av k b).or (rowS m (fB m R j now av k) (b + 1))).or (rowS m (fA m R j now av) (k + 1)) = q) := Lib.hid (by rw [← rowS_step _ hbm]; exact hr3)
          clear hr3
          have S := Lib.hid (fun W => setOf_any k b (by omega) (by omega) W)
          have hs6 := orpw_lt k b (by omega) (by omega)
          have hin : Hid (inB (pw k ||| pw b) left = (av k && av b)) := Lib.hid (by rw [inB_two, hav.out k (by omega), hav.out b (by omega)])
          have hcN : Hid (cutN left k b = dif (dif left (pw k ||| pw b)) (pw k - 1)) := Lib.hid rfl
          have hpk := pw_le (i := k) (by omega)
          have hpk1 := pw_pos k
          have shk := wrap_shl (k := k) (by omega)
          have hsk : IntKind.i64.wrap (((pw k : Nat) : Int) - 1) = ((pw k - 1 : Nat) : Int) := by rw [IntWalk.i64_in _ (by omega)]; omega
          have hfb : Hid (fB m R j now av k b = if (av k && av b) then pS m R j (now ++ [((k : Int), (b : Int))]) (cutA av k b) else none) := Lib.hid rfl
          rw [← hin.out] at hfb
          obtain ⟨s, hs⟩ : ∃ s, Hid ((pw k ||| pw b) = s) := ⟨_, Lib.hid rfl⟩
          rw [hs.out] at S hs6 hin hcN hfb
          have an := i64_and_nat left s (by omega) (by omega)
          have bne : (((left &&& s : Nat) : Int) != (s : Int)) = !(inB s left) := by
            have : (((left &&& s : Nat) : Int) == (s : Int)) = inB s left := by rw [beq_nat]; rfl
            rw [bne, this]
          have hP := Blk.new wr 58 #[.int .i64 (k : Nat), .int .i64 (b : Nat)]
          have hbp := b1 wr (.cells #[.int .i64 (k : Nat), .int .i64 (b : Nat)] 58)
          have hA3 := Lib.hid (hA2.out.ext hbp)
          have hrow3 := Lib.hid (hrow.out.keep hbp)
          have hK3 := Lib.hid (hK.out.trans (Keep.of hbp))
          have hszr := hK.out.size
          go_wp2
          generalize wr.alloc (.cells #[.int .i64 (k : Nat), .int .i64 (b : Nat)] 58) = w2 at *
          have y0 : w2.cell? ⟨wr.heap.size, 0, none⟩ = some (.int .i64 (k : Nat)) := hP.c 0 rfl
          have y1 : w2.cell? ⟨wr.heap.size, 1, none⟩ = some (.int .i64 (b : Nat)) := hP.c 1 rfl
          replace y0 := cellX y0
          replace y1 := cellX y1
          replace hP := Lib.hid hP
          clear hbp x0 x1
          refine wp_region_ext (by kernel_rfl) (by kernel_rfl) ?_
          repeat (go_big_quiet_step (first | exact rfl | with_reducible exact callE (S.out _)))
          refine wpQuiet_nil ?_
          rintro ⟨w3, hw3⟩
          dsimp only
          clear y0 y1
          cases hil : inB s left
          · have hfb2 : Hid (fB m R j now av k b = none) := Lib.hid (by rw [hfb.out, hil]; exact if_neg (by simp))
            have hr5 : Hid ((rowS m (fB m R j now av k) (b + 1)).or (rowS m (fA m R j now av) (k + 1)) = q) := Lib.hid (by have := hr4.out; rw [hfb2.out] at this; exact this)
            rw [hil] at bne
            replace hil := Lib.hid hil
            clear hfb hr4 hfb2
            go_wp2
            go_roundw
            case rel => exact ⟨b + 1, by omega, by omega, by go_num, hr5.out, hrow3.out.keep hw3, hK3.out.trans (Keep.of hw3)⟩
            case measure => simp [intOf]; omega
          · have hfb2 : Hid (fB m R j now av k b = pS m R j (now ++ [((k : Int), (b : Int))]) (cutA av k b)) := Lib.hid (by rw [hfb.out, hil]; exact if_pos rfl)
            rw [hil] at bne
            replace hil := Lib.hid hil
            clear hfb
            go_wp2
            refine wp_region_S (fun W => Blk W w.heap.size 60 #[.int .i64 (m : Nat), .slice a n c] ∧ Blk W wr.heap.size 58 #[.int .i64 (k : Nat), .int .i64 (b : Nat)]) (by kernel_rfl) ?_
            show wpAnyS _ _ _ _ _ (20 + 1) _ _ _
            have hA4 : Blk w3.drew w.heap.size 60 #[.int .i64 (m : Nat), .slice a n c] := hA3.out.ext hw3.drew
            have hP4 : Blk w3.drew wr.heap.size 58 #[.int .i64 (k : Nat), .int .i64 (b : Nat)] := hP.out.ext hw3.drew
            have hrow4 : RowG w3.drew G cap now := hrow3.out.keep hw3.drew
            have hK4 : Keep G w1 w3.drew := hK3.out.trans (Keep.of hw3.drew)
            have hsz4 : wr.heap.size < w3.drew.heap.size := hP4.lt
            generalize w3.drew = w4 at *
            have hGH := And.intro hA4 hP4
            refine anyS_pure 0 (fV m a n c) rfl (by kernel_rfl) (by kernel_rfl) (by kernel_rfl) (fun _ _ _ h => h) (by rfl) (fun W hW => by have y0 := hW.1.c 0 rfl; have y1 := hW.1.c 1 rfl; go_simp) hGH ?_
            refine anyS_pure 1 (rowV G cap now) rfl (by kernel_rfl) (by kernel_rfl) (by kernel_rfl) (fun _ _ _ h => h) (by rfl) (fun W _ => by go_simp) hGH ?_
            refine anyS_pure 2 (.agg #[.int .i64 (k : Nat), .int .i64 (b : Nat)]) rfl (by kernel_rfl) (by kernel_rfl) (by kernel_rfl) (fun _ _ _ h => h) (by rfl) (fun W hW => by have y0 := hW.2.c 0 rfl; have y1 := hW.2.c 1 rfl; go_simp) hGH ?_
            refine anyS_pure 5 (.int .i64 (left : Nat)) rfl (by kernel_rfl) (by kernel_rfl) (by kernel_rfl) (fun _ _ _ h => h) (by rfl) (fun W _ => by go_simp) hGH ?_
            refine anyS_pure 6 (.agg #[.int .i64 (k : Nat), .int .i64 (b : Nat)]) rfl (by kernel_rfl) (by kernel_rfl) (by kernel_rfl) (fun _ _ _ h => h) (by rfl) (fun W hW => by have y0 := hW.2.c 0 rfl; have y1 := hW.2.c 1 rfl; go_simp) hGH ?_
            refine anyS_pure 9 (.int .i64 (k : Nat)) rfl (by kernel_rfl) (by kernel_rfl) (by kernel_rfl) (fun _ _ _ h => h) (by rfl) (fun W _ => by go_simp) hGH ?_
            refine anyS_pure 10 (.int .i64 (pw k : Nat)) rfl (by kernel_rfl) (by kernel_rfl) (by kernel_rfl) (fun _ _ _ h => h) (by rfl) (fun W _ => by go_simp) hGH ?_
            refine anyS_pure 11 (.int .i64 (pw k - 1 : Nat)) rfl (by kernel_rfl) (by kernel_rfl) (by kernel_rfl) (fun _ _ _ h => h) (by rfl) (fun W _ => by go_simp) hGH ?_
            refine anyS_pure 13 (.int .i64 (j1 : Nat)) rfl (by kernel_rfl) (by kernel_rfl) (by kernel_rfl) (fun _ _ _ h => h) (by rfl) (fun W _ => by go_simp) hGH ?_
            refine anyS_pure 14 (.int .i64 (j : Nat)) rfl (by kernel_rfl) (by kernel_rfl) (by kernel_rfl) (fun _ _ _ h => h) (by rfl) (fun W _ => by go_simp) hGH ?_
            try simp only [Act.put, List.setIfInBounds_toArray]
            have an1 := i64_andNot_nat left s (by omega) (by omega)
            have hd1 : dif left s < 512 := Nat.lt_of_le_of_lt (dif_le _ _) hl512
            have an2 := i64_andNot_nat (dif left s) (pw k - 1) (by omega) (by omega)
            rw [← hcN.out] at an2
            have hcl : cutN left k b < 512 := Nat.lt_of_le_of_lt (cutN_le _ _ _) hl512
            have hcut : Hid (∀ i, i < m → (cutN left k b).testBit i = cutA av k b i) := Lib.hid (fun i hi => by
              rw [cutN_test, hav.out i hi]
              unfold cutA
              rw [Bool.eq_iff_iff]
              simp only [Bool.and_eq_true, Bool.not_eq_true', Bool.or_eq_false_iff, decide_eq_true_eq, decide_eq_false_iff_not]
              grind)
            have hok2 : Hid (PairsOk (now ++ [((k : Int), (b : Int))])) := Lib.hid (fun p hp => by
              rcases List.mem_append.1 hp with h | h
              · exact hok.out p h
              · rw [List.mem_singleton] at h; subst h; simp only; omega)
            have hln : Hid ((now ++ [((k : Int), (b : Int))]).length = now.length + 1) := Lib.hid (by simp)
            have hcp : Hid (cP (now ++ [((k : Int), (b : Int))]) = cP now ++ [.int .i64 (k : Int), .int .i64 (b : Int)]) := Lib.hid (by rw [cP_append]; rfl)
            generalize cutN left k b = left2 at *
            generalize dif left s = ld at *
            generalize pw k - 1 = pk at *
            replace hA4 := Lib.hid hA4
            replace hP4 := Lib.hid hP4
            replace hGH := Lib.hid hGH
            -- a new slice
            refine anyS_one 3 (by kernel_rfl) rfl ?_
            go_wp2_with fail
            show _ ∧ _
            have ba := b1 w4 (.cells #[.int .i64 (k : Nat), .int .i64 (b : Nat)] 58)
            refine ⟨⟨hA4.out.ext ba, hP4.out.ext ba⟩, ?_⟩
            try simp only [Act.put, List.setIfInBounds_toArray, List.set_cons_zero, List.set_cons_succ]
            have hrow5 := hrow4.keep ba
            have hcell := cell_two_new w4 (k : Int) (b : Int) 58
            have hA5 := hA4.out.ext ba
            have hP5 := hP4.out.ext ba
            have hK5 := hK4.trans (Keep.of ba)
            have hGw4 := hrow4.lt
            -- append
            refine anyS_one 4 (by kernel_rfl) rfl ?_
            refine wpList_append_fits _ rfl _ _ 32 rfl 0 58 i0 2 Tryd.underlying32 G0.out G2.out G now.length cap _ rfl hrow5 ⟨_, 0, none⟩ 1 1 [.int .i64 (k : Int), .int .i64 (b : Int)] rfl rfl hcell (by simp [Value.oneCell']) (by omega) ?_
            intro w6 hown6 hgrow6
            show _ ∧ _
            have hk6 := Keep.grown hgrow6
            have hA6 := hk6.blk (by omega) hA5
            have hP6 := hk6.blk (by omega) hP5
            have hrow6 : RowG w6 G cap (now ++ [((k : Int), (b : Int))]) := by
              unfold RowG
              rw [hcp.out, hln.out]
              exact hown6
            have hK6 := hK5.trans hk6
            have hsv : Hid (Value.slice (some ⟨G, 0, none⟩) (now.length + 1) cap = rowV G cap (now ++ [((k : Int), (b : Int))])) := Lib.hid (congrArg (fun t => Value.slice (some ⟨G, 0, none⟩) t cap) hln.out.symm)
            rw [hsv.out]
            refine ⟨⟨hA6, hP6⟩, ?_⟩
            clear hown6 hcell hrow5 hA5 hP5 hsv
            try simp only [Act.put, List.setIfInBounds_toArray, List.set_cons_zero, List.set_cons_succ]
            replace hA6 := Lib.hid hA6
            replace hP6 := Lib.hid hP6
            replace hrow6 := Lib.hid hrow6
            replace hK6 := Lib.hid hK6
            -- the set of the pair
            refine anyS_one 7 (by kernel_rfl) rfl ?_
            go_wp2_with (go_at_call 80; refine (S.out _).mono ?_; rintro e w7 ⟨rfl, hb7⟩)
            show _ ∧ _
            refine ⟨⟨hA6.out.ext hb7, hP6.out.ext hb7⟩, ?_⟩
            try simp only [Act.put, List.setIfInBounds_toArray, List.set_cons_zero, List.set_cons_succ]
            have hGH7 := And.intro (hA6.out.ext hb7) (hP6.out.ext hb7)
            refine anyS_pure 8 (.int .i64 (ld : Nat)) rfl (by kernel_rfl) (by kernel_rfl) (by kernel_rfl) (fun _ _ _ h => h) (by rfl) (fun W _ => by go_simp) hGH7 ?_
            refine anyS_pure 12 (.int .i64 (left2 : Nat)) rfl (by kernel_rfl) (by kernel_rfl) (by kernel_rfl) (fun _ _ _ h => h) (by rfl) (fun W _ => by go_simp) hGH7 ?_
            try simp only [Act.put, List.setIfInBounds_toArray, List.set_cons_zero, List.set_cons_succ]
            have hrow7 := hrow6.out.keep hb7
            have hK7 := hK6.out.trans (Keep.of hb7)
            have C := Lib.hid (IH.out (now ++ [((k : Int), (b : Int))]) (cutA av k b) left2 w7 ⟨hK7.below hbw1.out hG0, hG0, hints.out, hrow7, by rw [hln.out]; omega, hc9, hok2.out, hcl, hcut.out⟩)
            rw [← hfb2.out] at C
            obtain ⟨res0, hres9⟩ : ∃ res, Hid (fB m R j now av k b = res) := ⟨_, Lib.hid rfl⟩
            rw [hres9.out] at C
            replace hGH7 := Lib.hid hGH7
            replace hK7 := Lib.hid hK7
            have hne1 : w.heap.size ≠ G := by omega
            have hne2 : wr.heap.size ≠ G := by omega
            cases res0 with
            | none =>
              refine anyS_one 15 (by kernel_rfl) rfl ?_
              go_wp2_with (go_at_call 79; refine C.out.mono ?_; rintro e w8 ⟨hk8, ⟨v8, rfl⟩, hrow8⟩; replace hk8 := Lib.hid hk8; replace hrow8 := Lib.hid hrow8)
              show _ ∧ _
              have hGH8 := And.intro (hk8.out.blk (by omega) hGH7.out.1) (hk8.out.blk (by omega) hGH7.out.2)
              refine ⟨hGH8, ?_⟩
              try simp only [Act.put, List.setIfInBounds_toArray, List.set_cons_zero, List.set_cons_succ]
              refine anyS_pure 16 (.tuple #[v8, .bool false]) rfl (by kernel_rfl) (by kernel_rfl) (by kernel_rfl) (fun _ _ _ h => h) (by rfl) (fun W _ => by go_simp) hGH8 ?_
              refine anyS_pure 17 (v8) rfl (by kernel_rfl) (by kernel_rfl) (by kernel_rfl) (fun _ _ _ h => h) (by rfl) (fun W _ => by go_simp) hGH8 ?_
              refine anyS_pure 18 (.bool false) rfl (by kernel_rfl) (by kernel_rfl) (by kernel_rfl) (fun _ _ _ h => h) (by rfl) (fun W _ => by go_simp) hGH8 ?_
              try simp only [Act.put, List.setIfInBounds_toArray, List.set_cons_zero, List.set_cons_succ]
              replace hGH8 := Lib.hid hGH8
              refine anyS_one 19 (by kernel_rfl) rfl ?_
              go_wp2_with fail
              show _ ∧ _
              refine ⟨hGH8.out, ?_⟩
              refine anyS_one 20 (by kernel_rfl) rfl ?_
              go_wp2_with fail
              show _ ∧ _
              refine ⟨hGH8.out, ?_⟩
              refine anyS_end (by kernel_rfl) ?_
              have hr5 : Hid ((rowS m (fB m R j now av k) (b + 1)).or (rowS m (fA m R j now av) (k + 1)) = q) := Lib.hid (by have := hr4.out; rw [hres9.out] at this; exact this)
              clear hr4
              go_wp2
              go_roundw
              case rel => exact ⟨b + 1, by omega, by omega, by go_num, hr5.out, hrow8.out.part, hK7.out.trans hk8.out⟩
              case measure => simp [intOf]; omega
            | some res =>
              refine anyS_one 15 (by kernel_rfl) rfl ?_
              go_wp2_with (go_at_call 79; refine C.out.mono ?_; rintro e w8 ⟨hk8, rfl, hrow8⟩; replace hk8 := Lib.hid hk8; replace hrow8 := Lib.hid hrow8)
              show _ ∧ _
              have hGH8 := And.intro (hk8.out.blk (by omega) hGH7.out.1) (hk8.out.blk (by omega) hGH7.out.2)
              refine ⟨hGH8, ?_⟩
              try simp only [Act.put, List.setIfInBounds_toArray, List.set_cons_zero, List.set_cons_succ]
              refine anyS_pure 16 (.tuple #[rowV G cap res, .bool true]) rfl (by kernel_rfl) (by kernel_rfl) (by kernel_rfl) (fun _ _ _ h => h) (by rfl) (fun W _ => by go_simp) hGH8 ?_
              refine anyS_pure 17 (rowV G cap res) rfl (by kernel_rfl) (by kernel_rfl) (by kernel_rfl) (fun _ _ _ h => h) (by rfl) (fun W _ => by go_simp) hGH8 ?_
              refine anyS_pure 18 (.bool true) rfl (by kernel_rfl) (by kernel_rfl) (by kernel_rfl) (fun _ _ _ h => h) (by rfl) (fun W _ => by go_simp) hGH8 ?_
              try simp only [Act.put, List.setIfInBounds_toArray, List.set_cons_zero, List.set_cons_succ]
              replace hGH8 := Lib.hid hGH8
              refine anyS_one 19 (by kernel_rfl) rfl ?_
              go_wp2_with fail
              show _ ∧ _
              refine ⟨hGH8.out, ?_⟩
              refine anyS_one 20 (by kernel_rfl) rfl ?_
              go_wp2_with fail
              show _ ∧ _
              refine ⟨hGH8.out, ?_⟩
              refine anyS_end (by kernel_rfl) ?_
              have hq5 : Hid (q = some res) := Lib.hid (by have := hr4.out; rw [hres9.out] at this; exact this.symm)
              clear hr4
              go_wp2
              go_ret2
              unfold CompR
              rw [hq5.out]
              exact ⟨hkw.out.trans (hK7.out.trans hk8.out), rfl, hrow8.out⟩
        · obtain rfl : b = m := by omega
          have hr5 : Hid (rowS b (fA b R j now av) (k + 1) = q) := Lib.hid (by rw [rowS_end _ (Nat.le_refl _)] at hr3; exact hr3)
          clear hr3
          go_wp2
          go_roundw
          case rel => exact ⟨k + 1, by omega, by go_num, hr5.out, hrow.out, hK.out⟩
          case measure => simp [intOf]; omega
    · obtain rfl : k = m := by omega
      have hq5 : Hid (q = none) := Lib.hid (by rw [← hres]; exact rowS_end _ (Nat.le_refl _))
      clear hres
      replace hK := Lib.hid hK
      go_wp2
      go_ret2
      unfold CompR
      rw [hq5.out]
      exact ⟨hkw.out.trans hK.out, ⟨_, rfl⟩, hrow.out⟩
theorem complete_any (m : Nat) (a : Option Addr) (n c : Nat) (R : List Int) (G cap : Nat) (w0 : World) (hF : FieldP m R) (hn : R.length = n) : ∀ (k : Nat) (now : List (Int × Int)) (av : Nat → Bool) (left : Nat) (w : World), CompS m a R G cap k now av left w0 w →
    Calls Tryd.prog 79 #[fV m a n c, rowV G cap now, .int .i64 (left : Nat), .int .i64 (k : Nat)] w (CompR G cap now (pS m R k now av) w) := by
  intro k
  induction k with
  | zero => exact fun now av left w h => complete_zero m a n c R G cap now av left w0 w hF hn h
  | succ k ih => exact fun now av left w h => complete_step m a n c R G cap k now av left w0 w hF h ih
end Go.Proofs.YtbdhceolchhnjaaDoor
