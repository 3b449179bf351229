/- Layer 7, by the program: Euclid. -/
import Derived.Test.YtdafpjapepfniaaWj
namespace Go.Proofs.Ytdafpjapepfniaa
open Go Go.RowKit

theorem infoHp : (Try.prog.info? 60).map (fun i => (i.zero, i.size, i.bytes)) = some (some (hV h0), 7, 56) := by kernel_rfl
theorem cell7_new (w : World) (h : Hp) (t : TypeId) : ∀ j u, (hC h).toList[j]? = some u → (w.alloc (.cells (hC h) t)).cell? (Addr.add ⟨w.heap.size, 0, none⟩ j) = some u := by
  intro j u hj
  have ha : Addr.add ⟨w.heap.size, 0, none⟩ j = ⟨w.heap.size, j, none⟩ := by first | (simp [Addr.add]; done) | (simp [Addr.add]; omega)
  rw [ha]
  exact (Blk.new w t _).c j (by rw [← hj]; simp)
theorem own_heaps {w : World} {base n : Nat} {v : Value} {L : List Hp} (h : w.ownsRow base 60 7 v n (hL L)) (hn : L.length = n) : ∃ a c, v = .slice a n c ∧ n ≤ c ∧ (0 < L.length → ∃ g, a = some ⟨g, 0, none⟩ ∧ base ≤ g ∧ HBlk w g L) := by
  rcases h.2 with ⟨rfl, h2⟩ | ⟨g, cap, cur, rfl, hg, hh, hcap, _, _, ht⟩
  · exact ⟨none, 0, by rw [h2], by omega, fun h => by omega⟩
  · exact ⟨some ⟨g, 0, none⟩, cap, rfl, hcap, fun _ => ⟨g, rfl, hg, cur, hh, by rw [hn]; exact ht⟩⟩
abbrev eucH (a b : Nat) : Hp := ⟨(a : Int), (b : Int), 0, 0, 0, 0, 0⟩
/-- The heaps behind a move by so many times the lesser one. -/
def eucM (a b k : Nat) : Hp := if a ≤ b then eucH a (b - k * a) else eucH (a - k * b) b
/-- The moves from s times on, up to t. -/
def eucT (a b s t : Nat) : List Hp := (List.range (t - s)).map fun i => eucM a b (s + i)
theorem eucT_succ (a b s t : Nat) (h : s ≤ t) : eucT a b s (t + 1) = eucT a b s t ++ [eucM a b t] := by
  unfold eucT
  rw [show t + 1 - s = t - s + 1 by omega, List.range_succ, List.map_append, List.map_singleton, show s + (t - s) = t by omega]
theorem eucT_len (a b s t : Nat) : (eucT a b s t).length = t - s := by simp [eucT]
def eucL (a b : Nat) : List Hp := if min a b = 0 then [] else eucT a b (max 1 (max a b / min a b - 1)) (max a b / min a b + 1)

set_option maxRecDepth 100000 in
set_option maxHeartbeats 4000000 in
theorem euc1_le (a b : Nat) (w : World) (ha : a ≤ 1099511627776) (hb : b ≤ 1099511627776) (hle : a ≤ b) (h0 : 0 < a) : Calls Try.prog 75 #[hV (eucH a b)] w (NewH (eucT a b (max 1 (b / a - 1)) (b / a + 1)) w) := by
  obtain ⟨i0, hi, hz0, hz1, hz2⟩ := info_parts infoHp
  have G0 := Lib.hid hi
  have G1 := Lib.hid hz0
  have G2 := Lib.hid hz1
  have G3 := Lib.hid hz2
  clear hi hz0 hz1 hz2
  have hq := div_i b a
  have hq1 : 1 ≤ b / a := (Nat.le_div_iff_mul_le h0).2 (by omega)
  have hqm := Nat.div_mul_le_self b a
  have hq2 : b / a ≤ b := Nat.div_le_self _ _
  obtain ⟨q, hqq⟩ : ∃ q, Hid (b / a = q) := ⟨_, Lib.hid rfl⟩
  rw [hqq.out] at hq hq1 hqm hq2 ⊢
  obtain ⟨s, hss⟩ : ∃ s, Hid (max 1 (q - 1) = s) := ⟨_, Lib.hid rfl⟩
  have hs1 : 1 ≤ s ∧ s ≤ q ∧ q ≤ s + 1 := by have := hss.out; omega
  obtain ⟨hs1, hs2, hs3⟩ := hs1
  have e3 : max (1 : Int) ((q : Int) - 1) = (s : Int) := by have := hss.out; omega
  rw [hss.out]
  have hst := Lib.hid (eucT_succ a b s)
  have hem : Hid (∀ k, eucM a b k = eucH a (b - k * a)) := Lib.hid (fun k => by unfold eucM; rw [if_pos hle])
  have hln := Lib.hid (eucT_len a b s)
  have hbeg : Hid (eucT a b s s = []) := Lib.hid (by unfold eucT; rw [Nat.sub_self]; rfl)
  have hbx := Lib.hid (Blk.new w 60 (hC (eucH a b)))
  have x0 : (w.alloc (.cells (hC (eucH a b)) 60)).cell? ⟨w.heap.size, 0, none⟩ = some (.int .i64 (a : Int)) := hbx.out.c 0 rfl
  have x1 : (w.alloc (.cells (hC (eucH a b)) 60)).cell? ⟨w.heap.size, 1, none⟩ = some (.int .i64 (b : Int)) := hbx.out.c 1 rfl
  have hcmp : (a : Int) ≤ (b : Int) := by omega
  have hlo0 : ((a : Int) == 0) = false := by rw [beq_eq_false_iff_ne]; omega
  have hlo1 : (0 : Int) < (a : Int) := by omega
  go_enter Try.func75, Try.ntmps75
  go_wp2
  clear x0 x1
  have B0 := b1 w (.cells (hC (eucH a b)) 60)
  go_loopw [6, 7, 8] (fun v i _ wr => ∃ t : Nat, s ≤ t ∧ t ≤ q + 1 ∧ i = .int .i64 t ∧ wr.ownsRow (w.heap.size + 1) 60 7 v (eucT a b s t).length (hL (eucT a b s t)) ∧ Blk wr w.heap.size 60 (hC (eucH a b)) ∧ Below w.heap.size w wr) (fun _ i _ _ => q + 1 - (intOf i).toNat)
  case atStart => exact ⟨s, Nat.le_refl _, by omega, rfl, by rw [hbeg.out]; exact World.ownsRow_nil _ _ _ _, hbx.out, B0⟩
  case round =>
    clear B0
    obtain ⟨t, ht1, ht2, rfl, hown, hB, B0⟩ := hrel
    obtain ⟨a', c, rfl, hc', hH⟩ := own_heaps hown rfl
    have hs := B0.size
    by_cases hlt : t ≤ q
    · have hlt' : (t : Int) ≤ (q : Int) := by omega
      obtain ⟨c0, c1, c2, c3, c4, c5, c6⟩ := hB.c7
      have hpm : t * a ≤ b := Nat.le_trans (Nat.mul_le_mul_right _ hlt) hqm
      have ep : (t : Int) * (a : Int) = ((t * a : Nat) : Int) := by rw [Int.natCast_mul]
      have hst2 := Lib.hid (hst.out t ht1)
      have hem2 := Lib.hid (hem.out t)
      have hln2 := hln.out t
      obtain ⟨p, hpp⟩ : ∃ p, Hid (t * a = p) := ⟨_, Lib.hid rfl⟩
      rw [hpp.out] at hpm ep hem2
      have esub : (((b - p : Nat) : Nat) : Int) = (b : Int) - (p : Int) := by omega
      have hem3 : Hid (eucM a b t = ⟨(a : Int), (b : Int) - (p : Int), 0, 0, 0, 0, 0⟩) := Lib.hid (by rw [hem2.out, eucH, esub])
      clear esub
      generalize hn : (eucT a b s t).length = n at *
      replace hn := Lib.hid hn
      have hn2 : n ≤ 5 := by omega
      have hs' : w.heap.size + 1 ≤ wr.heap.size := by have := hB.lt; omega
      replace hln2 := Lib.hid hln2
      replace hH := Lib.hid hH
      have hB' := Lib.hid hB
      clear hB
      have hbx2 := Lib.hid (Blk.new wr 60 (hC (eucH a b)))
      have hc7 := cell7_new (wr.alloc (.cells (hC ⟨(a : Int), (b : Int) - (p : Int), 0, 0, 0, 0, 0⟩) 60)) ⟨(a : Int), (b : Int) - (p : Int), 0, 0, 0, 0, 0⟩ 60
      rw [World.size_alloc] at hc7
      replace hc7 := Lib.hid hc7
      go_wp2_with (at_builtin; refine wpList_append_own _ rfl _ _ 79 rfl (w.heap.size + 1) 60 i0 (hV Go.Proofs.Ytdafpjapepfniaa.h0) 7 56 Try.underlying79 G0.out G1.out G2.out G3.out rfl (by decide) _ _ _ rfl ((hown.alloc _).alloc _) ⟨_, 0, none⟩ 1 1 (hC ⟨(a : Int), (b : Int) - (p : Int), 0, 0, 0, 0, 0⟩).toList rfl rfl hc7.out (by simp [Value.oneCell']) (by unfold maxLen; omega) (by omega) (by simp; omega) ?_; intro v' w2 hown2 hgrow _)
      have B2 := ((B0.alloc hs _).alloc (by simp; omega) _).grown hgrow (by simp; omega) (fun q hq => by have := (hown.lt q hq).1; omega)
      have hB2 := blk_grown ((hB'.out.alloc _).alloc _) hgrow (fun e => by have := (hown.lt _ e.symm).1; omega)
      go_roundw
      case rel => exact ⟨t + 1, by omega, by omega, by go_num, by rw [hst2.out, List.length_append, hn.out, hL_snoc, hem3.out]; exact hown2, hB2, B2⟩
      case measure => simp [intOf]; omega
    · obtain rfl : t = q + 1 := by omega
      have hlt' : (q : Int) < ((q + 1 : Nat) : Int) := by omega
      have hH := Lib.hid hH
      go_wp2
      go_ret
      exact ⟨a', c, rfl, hc', (fun h => let ⟨g, h1, h2, h3⟩ := hH.out h; ⟨g, h1, by omega, h3⟩), B0⟩

set_option maxRecDepth 100000 in
set_option maxHeartbeats 4000000 in
theorem euc1_gt (a b : Nat) (w : World) (ha : a ≤ 1099511627776) (hb : b ≤ 1099511627776) (hle : b < a) (h0 : 0 < b) : Calls Try.prog 75 #[hV (eucH a b)] w (NewH (eucT a b (max 1 (a / b - 1)) (a / b + 1)) w) := by
  obtain ⟨i0, hi, hz0, hz1, hz2⟩ := info_parts infoHp
  have G0 := Lib.hid hi
  have G1 := Lib.hid hz0
  have G2 := Lib.hid hz1
  have G3 := Lib.hid hz2
  clear hi hz0 hz1 hz2
  have hq := div_i a b
  have hq1 : 1 ≤ a / b := (Nat.le_div_iff_mul_le h0).2 (by omega)
  have hqm := Nat.div_mul_le_self a b
  have hq2 : a / b ≤ a := Nat.div_le_self _ _
  obtain ⟨q, hqq⟩ : ∃ q, Hid (a / b = q) := ⟨_, Lib.hid rfl⟩
  rw [hqq.out] at hq hq1 hqm hq2 ⊢
  obtain ⟨s, hss⟩ : ∃ s, Hid (max 1 (q - 1) = s) := ⟨_, Lib.hid rfl⟩
  have hs1 : 1 ≤ s ∧ s ≤ q ∧ q ≤ s + 1 := by have := hss.out; omega
  obtain ⟨hs1, hs2, hs3⟩ := hs1
  have e3 : max (1 : Int) ((q : Int) - 1) = (s : Int) := by have := hss.out; omega
  rw [hss.out]
  have hst := Lib.hid (eucT_succ a b s)
  have hem : Hid (∀ k, eucM a b k = eucH (a - k * b) b) := Lib.hid (fun k => by unfold eucM; rw [if_neg (by omega)])
  have hln := Lib.hid (eucT_len a b s)
  have hbeg : Hid (eucT a b s s = []) := Lib.hid (by unfold eucT; rw [Nat.sub_self]; rfl)
  have hbx := Lib.hid (Blk.new w 60 (hC (eucH a b)))
  have x0 : (w.alloc (.cells (hC (eucH a b)) 60)).cell? ⟨w.heap.size, 0, none⟩ = some (.int .i64 (a : Int)) := hbx.out.c 0 rfl
  have x1 : (w.alloc (.cells (hC (eucH a b)) 60)).cell? ⟨w.heap.size, 1, none⟩ = some (.int .i64 (b : Int)) := hbx.out.c 1 rfl
  have hcmp : (b : Int) < (a : Int) := by omega
  have hlo0 : ((b : Int) == 0) = false := by rw [beq_eq_false_iff_ne]; omega
  have hlo1 : (0 : Int) < (b : Int) := by omega
  go_enter Try.func75, Try.ntmps75
  go_wp2
  clear x0 x1
  have B0 := b1 w (.cells (hC (eucH a b)) 60)
  go_loopw [6, 7, 8] (fun v i _ wr => ∃ t : Nat, s ≤ t ∧ t ≤ q + 1 ∧ i = .int .i64 t ∧ wr.ownsRow (w.heap.size + 1) 60 7 v (eucT a b s t).length (hL (eucT a b s t)) ∧ Blk wr w.heap.size 60 (hC (eucH a b)) ∧ Below w.heap.size w wr) (fun _ i _ _ => q + 1 - (intOf i).toNat)
  case atStart => exact ⟨s, Nat.le_refl _, by omega, rfl, by rw [hbeg.out]; exact World.ownsRow_nil _ _ _ _, hbx.out, B0⟩
  case round =>
    clear B0
    obtain ⟨t, ht1, ht2, rfl, hown, hB, B0⟩ := hrel
    obtain ⟨a', c, rfl, hc', hH⟩ := own_heaps hown rfl
    have hs := B0.size
    by_cases hlt : t ≤ q
    · have hlt' : (t : Int) ≤ (q : Int) := by omega
      obtain ⟨c0, c1, c2, c3, c4, c5, c6⟩ := hB.c7
      have hpm : t * b ≤ a := Nat.le_trans (Nat.mul_le_mul_right _ hlt) hqm
      have ep : (t : Int) * (b : Int) = ((t * b : Nat) : Int) := by rw [Int.natCast_mul]
      have hst2 := Lib.hid (hst.out t ht1)
      have hem2 := Lib.hid (hem.out t)
      have hln2 := hln.out t
      obtain ⟨p, hpp⟩ : ∃ p, Hid (t * b = p) := ⟨_, Lib.hid rfl⟩
      rw [hpp.out] at hpm ep hem2
      have esub : (((a - p : Nat) : Nat) : Int) = (a : Int) - (p : Int) := by omega
      have hem3 : Hid (eucM a b t = ⟨(a : Int) - (p : Int), (b : Int), 0, 0, 0, 0, 0⟩) := Lib.hid (by rw [hem2.out, eucH, esub])
      clear esub
      generalize hn : (eucT a b s t).length = n at *
      replace hn := Lib.hid hn
      have hn2 : n ≤ 5 := by omega
      have hs' : w.heap.size + 1 ≤ wr.heap.size := by have := hB.lt; omega
      replace hln2 := Lib.hid hln2
      replace hH := Lib.hid hH
      have hB' := Lib.hid hB
      clear hB
      have hbx2 := Lib.hid (Blk.new wr 60 (hC (eucH a b)))
      have hc7 := cell7_new (wr.alloc (.cells (hC ⟨(a : Int) - (p : Int), (b : Int), 0, 0, 0, 0, 0⟩) 60)) ⟨(a : Int) - (p : Int), (b : Int), 0, 0, 0, 0, 0⟩ 60
      rw [World.size_alloc] at hc7
      replace hc7 := Lib.hid hc7
      go_wp2_with (at_builtin; refine wpList_append_own _ rfl _ _ 79 rfl (w.heap.size + 1) 60 i0 (hV Go.Proofs.Ytdafpjapepfniaa.h0) 7 56 Try.underlying79 G0.out G1.out G2.out G3.out rfl (by decide) _ _ _ rfl ((hown.alloc _).alloc _) ⟨_, 0, none⟩ 1 1 (hC ⟨(a : Int) - (p : Int), (b : Int), 0, 0, 0, 0, 0⟩).toList rfl rfl hc7.out (by simp [Value.oneCell']) (by unfold maxLen; omega) (by omega) (by simp; omega) ?_; intro v' w2 hown2 hgrow _)
      have B2 := ((B0.alloc hs _).alloc (by simp; omega) _).grown hgrow (by simp; omega) (fun q hq => by have := (hown.lt q hq).1; omega)
      have hB2 := blk_grown ((hB'.out.alloc _).alloc _) hgrow (fun e => by have := (hown.lt _ e.symm).1; omega)
      go_roundw
      case rel => exact ⟨t + 1, by omega, by omega, by go_num, by rw [hst2.out, List.length_append, hn.out, hL_snoc, hem3.out]; exact hown2, hB2, B2⟩
      case measure => simp [intOf]; omega
    · obtain rfl : t = q + 1 := by omega
      have hlt' : (q : Int) < ((q + 1 : Nat) : Int) := by omega
      have hH := Lib.hid hH
      go_wp2
      go_ret
      exact ⟨a', c, rfl, hc', (fun h => let ⟨g, h1, h2, h3⟩ := hH.out h; ⟨g, h1, by omega, h3⟩), B0⟩
end Go.Proofs.Ytdafpjapepfniaa
