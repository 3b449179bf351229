/- Flip's answer lies in a block of its own. -/
import Derived.Test.YtkbdclladfjmcaaFg
namespace Go.Proofs.Ytkbdclladfjmcaa
open Go Go.RowKit

def OwnF (n : Nat) (L : List (Int × Int)) (i : Nat) (w : World) (e : Ending) (w' : World) : Prop :=
  ∃ a c, e = .returned (.tuple #[.slice a L.length c, .int .i64 0]) ∧ w'.ownsRow w.heap.size 29 2 (.slice a L.length c) L.length (cP (flipL n L i)) ∧ L.length ≤ c ∧ Below w.heap.size w w'
set_option maxRecDepth 100000 in
set_option maxHeartbeats 4000000 in
theorem Flip_own (n : Nat) (a : Option Addr) (m c : Nat) (L : List (Int × Int)) (i : Nat) (w : World) (h : Prs w a L) (hl : L.length = m) (hcap : m ≤ c) (hB : BrandP n L) (hi : i < m) (htip : 2 ≤ (tipsL n L (pth L i)).length) :
    Calls Try.prog 7 #[.int .i64 n, .slice a m c, .int .i64 i] w (OwnF n L i w) := by
  have hn : n ≤ 12 := by have := hB.2.1; omega
  have hn3 : 3 ≤ n := by have := hB.1; omega
  have hm9 : m ≤ 9 := by have := hB.2.2.1; omega
  have hline := (hB.2.2.2 i (by omega)).1
  have K := Lib.hid (brandOf_yes n a m c L w h hl hcap hB)
  have A := Lib.hid (fun W (hW : Below w.heap.size w W) => across_any n a m c L (pth L i).1 (pth L i).2 W (h.next hW) hl (by omega) (by omega) hn hline.1 (by have := hline.2.1; have := hline.2.2.1; omega) (by have := hline.1; have := hline.2.1; omega) (by have := hline.2.2.1; omega) htip)
  obtain ⟨b, off, rfl, hc⟩ := prs_at h (by omega)
  rw [hl] at hc
  replace hc := Lib.hid hc
  replace hl := Lib.hid hl
  clear h htip hB hline
  obtain ⟨c0, c1⟩ := hc.out i hi
  have hi1 : (i : Int) < (m : Int) := by omega
  go_enter Try.func7, Try.ntmps7
  go_wp2_with (go_at_call 13; refine K.out.mono ?_; rintro e w1 ⟨rfl, hb1⟩)
  have B0 := nextB hb1 (b1 w1 (.cells #[.int .i64 n, .slice (some ⟨b, off, none⟩) m c] 42))
  have X0 := Blk.new w1 42 #[.int .i64 n, .slice (some ⟨b, off, none⟩) m c]
  generalize hW : w1.alloc (.cells #[.int .i64 n, .slice (some ⟨b, off, none⟩) m c] 42) = W at *
  clear hW hb1
  generalize w1.heap.size = z at *
  have x0 := cellX (cellB B0 c0)
  have x1 := cellX (cellB B0 c1)
  have y0 := cellX (X0.c 0 rfl)
  have y1 := cellX (X0.c 1 rfl)
  have AE := Lib.hid (fun (x : Ext W) => A.out x.world (nextB B0 x.ok))
  clear c0 c1
  refine wp_region_ext_tail 6 (by kernel_rfl) (by kernel_rfl) ?_
  simp only [List.take_succ_cons, List.take_zero, List.drop_succ_cons, List.drop_zero]
  repeat (go_big_quiet_step ((go_at_call 14; exact callE (AE.out _))))
  refine wpQuiet_nil ?_
  rintro ⟨w2, hw2⟩
  dsimp only
  replace B0 := nextB B0 hw2
  clear x0 x1 y0 y1 hw2 X0 AE A
  have hflip := Lib.hid (show flipL n L i = sortL (L.take i ++ (L.drop (i + 1) ++ [otherL n L (pth L i)])) from rfl)
  change Hid (flipL n L i = sortL (L.take i ++ (L.drop (i + 1) ++ [otherL n L ((pth L i).1, (pth L i).2)]))) at hflip
  generalize otherL n L ((pth L i).1, (pth L i).2) = oo at *
  go_wp2
  have OB := Blk.new w2 29 #[.int .i64 oo.1, .int .i64 oo.2]
  have BO := b1 w2 (.cells #[.int .i64 oo.1, .int .i64 oo.2] 29)
  generalize hWO : w2.alloc (.cells #[.int .i64 oo.1, .int .i64 oo.2] 29) = WO at *
  clear hWO
  have B0' := nextB B0 BO
  clear BO
  have BO := Below.refl WO.heap.size WO
  replace B0 := B0'
  clear B0'
  generalize w2.heap.size = zo at *
  have i1 : (i : Int) + 1 ≤ (m : Int) := by omega
  have i2 : (0 : Int) ≤ (i : Int) + 1 := by omega
  have i3 : ((i : Int) + 1).toNat = i + 1 := by omega
  have i4 : i ≤ c := by omega
  have i5 : i + 1 ≤ c := by omega
  by_cases hcc : c = i + 1
  · obtain rfl : m = i + 1 := by omega
    subst hcc
    refine wp_region_ext_tail 8 (by kernel_rfl) (by kernel_rfl) ?_
    simp only [List.take_succ_cons, List.take_zero, List.drop_succ_cons, List.drop_zero]
    repeat (go_big_quiet_step (fail))
    refine wpQuiet_nil ?_
    rintro ⟨w3, hw3⟩
    dsimp only
    have B1 := nextB B0 (nextB BO hw3)
    have O1 := OB.ext hw3
    go_wp2_with fail
    have hP := Blk.new w3 27 #[.slice (some ⟨b, off, none⟩) i (i + 1), .slice (some ⟨b, off, none⟩) 0 0, .slice (some ⟨zo, 0, none⟩) 1 1]
    refine calls_at (F := fun W => Below w3.heap.size w3 W ∧ Blk W w3.heap.size 27 #[.slice (some ⟨b, off, none⟩) i (i + 1), .slice (some ⟨b, off, none⟩) 0 0, .slice (some ⟨zo, 0, none⟩) 1 1]) ⟨b1 _ _, hP⟩ ?_
    clear hP
    rintro W3 ⟨C3, hP⟩
    have B3 := nextB B1 C3
    have O3 := O1.ext C3
    have k1 : PartOk W3 ⟨some ⟨b, off, none⟩, i, i + 1, L.take i⟩ := ⟨.inr ⟨b, off, rfl, fun j hj => by
        have hj' : j < i := by rw [List.length_take] at hj; omega
        rw [pth_take hj']
        have := hc.out j (by omega)
        exact ⟨cellB B3 this.1, cellB B3 this.2⟩⟩, by show (L.take i).length = i; rw [List.length_take, hl.out]; exact Nat.min_eq_left (by omega), fun h => by cases h⟩
    have k2 : PartOk W3 ⟨some ⟨b, off, none⟩, 0, 0, L.drop (i + 1)⟩ := ⟨.inl (by show (L.drop (i + 1)).length = 0; rw [List.length_drop, hl.out]; omega), by show (L.drop (i + 1)).length = 0; rw [List.length_drop, hl.out]; omega, fun h => by cases h⟩
    have k3 : PartOk W3 ⟨some ⟨zo, 0, none⟩, 1, 1, [oo]⟩ := ⟨.inr ⟨zo, 0, rfl, fun j hj => by
        obtain rfl : j = 0 := by simpa using hj
        exact ⟨O3.c 0 rfl, O3.c 1 rfl⟩⟩, rfl, fun h => by cases h⟩
    have hall : allP [⟨some ⟨b, off, none⟩, i, i + 1, L.take i⟩, ⟨some ⟨b, off, none⟩, 0, 0, L.drop (i + 1)⟩, ⟨some ⟨zo, 0, none⟩, 1, 1, [oo]⟩] = L.take i ++ (L.drop (i + 1) ++ [oo]) := by simp [allP]
    have hlen : (L.take i ++ (L.drop (i + 1) ++ [oo])).length = L.length := by have := hl.out; simp; omega
    have z1 : ∀ t, t < 3 → W3.cell? ⟨w3.heap.size, t, none⟩ = some (.slice (pat [⟨some ⟨b, off, none⟩, i, i + 1, L.take i⟩, ⟨some ⟨b, off, none⟩, 0, 0, L.drop (i + 1)⟩, ⟨some ⟨zo, 0, none⟩, 1, 1, [oo]⟩] t).a (pat [⟨some ⟨b, off, none⟩, i, i + 1, L.take i⟩, ⟨some ⟨b, off, none⟩, 0, 0, L.drop (i + 1)⟩, ⟨some ⟨zo, 0, none⟩, 1, 1, [oo]⟩] t).n (pat [⟨some ⟨b, off, none⟩, i, i + 1, L.take i⟩, ⟨some ⟨b, off, none⟩, 0, 0, L.drop (i + 1)⟩, ⟨some ⟨zo, 0, none⟩, 1, 1, [oo]⟩] t).c) := by
      intro t ht
      have : t = 0 ∨ t = 1 ∨ t = 2 := by omega
      rcases this with rfl | rfl | rfl
      · exact hP.c 0 rfl
      · exact hP.c 1 rfl
      · exact hP.c 2 rfl
    have z2 : ∀ t, t < 3 → PartOk W3 (pat [⟨some ⟨b, off, none⟩, i, i + 1, L.take i⟩, ⟨some ⟨b, off, none⟩, 0, 0, L.drop (i + 1)⟩, ⟨some ⟨zo, 0, none⟩, 1, 1, [oo]⟩] t) := by
      intro t ht
      have : t = 0 ∨ t = 1 ∨ t = 2 := by omega
      rcases this with rfl | rfl | rfl
      · exact k1
      · exact k2
      · exact k3
    have SR := sorted_any w3.heap.size 3 3 _ W3 rfl (by omega) (by rw [hall, hlen, hl.out]; omega) z1 z2
    rw [hall, hlen] at SR
    refine SR.mono ?_
    rintro e w4 ⟨a4, c4, rfl, hown4, hp4, hc4, hb4⟩
    dsimp only
    have hsB := B3.size
    have B4 := nextB B3 hb4
    clear SR z1 z2 hall hlen k1 k2 k3 O3 hP C3 O1 hw3 OB BO B1 B3 hb4
    go_wp2
    go_ret2
    exact ⟨a4, c4, rfl, by rw [hflip.out]; exact own_base hown4 (by assumption), hc4, B4⟩
  · skip
    refine wp_region_ext_tail 8 (by kernel_rfl) (by kernel_rfl) ?_
    simp only [List.take_succ_cons, List.take_zero, List.drop_succ_cons, List.drop_zero]
    repeat (go_big_quiet_step (fail))
    refine wpQuiet_nil ?_
    rintro ⟨w3, hw3⟩
    dsimp only
    have B1 := nextB B0 (nextB BO hw3)
    have O1 := OB.ext hw3
    go_wp2_with fail
    have hP := Blk.new w3 27 #[.slice (some ⟨b, off, none⟩) i c, .slice (some ⟨b, off + (i + 1) * 2, none⟩) (m - (i + 1)) (c - (i + 1)), .slice (some ⟨zo, 0, none⟩) 1 1]
    refine calls_at (F := fun W => Below w3.heap.size w3 W ∧ Blk W w3.heap.size 27 #[.slice (some ⟨b, off, none⟩) i c, .slice (some ⟨b, off + (i + 1) * 2, none⟩) (m - (i + 1)) (c - (i + 1)), .slice (some ⟨zo, 0, none⟩) 1 1]) ⟨b1 _ _, hP⟩ ?_
    clear hP
    rintro W3 ⟨C3, hP⟩
    have B3 := nextB B1 C3
    have O3 := O1.ext C3
    have k1 : PartOk W3 ⟨some ⟨b, off, none⟩, i, c, L.take i⟩ := ⟨.inr ⟨b, off, rfl, fun j hj => by
        have hj' : j < i := by rw [List.length_take] at hj; omega
        rw [pth_take hj']
        have := hc.out j (by omega)
        exact ⟨cellB B3 this.1, cellB B3 this.2⟩⟩, by show (L.take i).length = i; rw [List.length_take, hl.out]; exact Nat.min_eq_left (by omega), fun h => by cases h⟩
    have k2 : PartOk W3 ⟨some ⟨b, off + (i + 1) * 2, none⟩, m - (i + 1), c - (i + 1), L.drop (i + 1)⟩ := ⟨.inr ⟨b, off + (i + 1) * 2, rfl, fun j hj => by
        have hj' : i + 1 + j < m := by rw [List.length_drop, hl.out] at hj; omega
        rw [pth_drop]
        have := hc.out (i + 1 + j) hj'
        rw [show off + (i + 1) * 2 + j * 2 = off + (i + 1 + j) * 2 by omega]
        exact ⟨cellB B3 this.1, cellB B3 this.2⟩⟩, by rw [List.length_drop, hl.out], fun h => by cases h⟩
    have k3 : PartOk W3 ⟨some ⟨zo, 0, none⟩, 1, 1, [oo]⟩ := ⟨.inr ⟨zo, 0, rfl, fun j hj => by
        obtain rfl : j = 0 := by simpa using hj
        exact ⟨O3.c 0 rfl, O3.c 1 rfl⟩⟩, rfl, fun h => by cases h⟩
    have hall : allP [⟨some ⟨b, off, none⟩, i, c, L.take i⟩, ⟨some ⟨b, off + (i + 1) * 2, none⟩, m - (i + 1), c - (i + 1), L.drop (i + 1)⟩, ⟨some ⟨zo, 0, none⟩, 1, 1, [oo]⟩] = L.take i ++ (L.drop (i + 1) ++ [oo]) := by simp [allP]
    have hlen : (L.take i ++ (L.drop (i + 1) ++ [oo])).length = L.length := by have := hl.out; simp; omega
    have z1 : ∀ t, t < 3 → W3.cell? ⟨w3.heap.size, t, none⟩ = some (.slice (pat [⟨some ⟨b, off, none⟩, i, c, L.take i⟩, ⟨some ⟨b, off + (i + 1) * 2, none⟩, m - (i + 1), c - (i + 1), L.drop (i + 1)⟩, ⟨some ⟨zo, 0, none⟩, 1, 1, [oo]⟩] t).a (pat [⟨some ⟨b, off, none⟩, i, c, L.take i⟩, ⟨some ⟨b, off + (i + 1) * 2, none⟩, m - (i + 1), c - (i + 1), L.drop (i + 1)⟩, ⟨some ⟨zo, 0, none⟩, 1, 1, [oo]⟩] t).n (pat [⟨some ⟨b, off, none⟩, i, c, L.take i⟩, ⟨some ⟨b, off + (i + 1) * 2, none⟩, m - (i + 1), c - (i + 1), L.drop (i + 1)⟩, ⟨some ⟨zo, 0, none⟩, 1, 1, [oo]⟩] t).c) := by
      intro t ht
      have : t = 0 ∨ t = 1 ∨ t = 2 := by omega
      rcases this with rfl | rfl | rfl
      · exact hP.c 0 rfl
      · exact hP.c 1 rfl
      · exact hP.c 2 rfl
    have z2 : ∀ t, t < 3 → PartOk W3 (pat [⟨some ⟨b, off, none⟩, i, c, L.take i⟩, ⟨some ⟨b, off + (i + 1) * 2, none⟩, m - (i + 1), c - (i + 1), L.drop (i + 1)⟩, ⟨some ⟨zo, 0, none⟩, 1, 1, [oo]⟩] t) := by
      intro t ht
      have : t = 0 ∨ t = 1 ∨ t = 2 := by omega
      rcases this with rfl | rfl | rfl
      · exact k1
      · exact k2
      · exact k3
    have SR := sorted_any w3.heap.size 3 3 _ W3 rfl (by omega) (by rw [hall, hlen, hl.out]; omega) z1 z2
    rw [hall, hlen] at SR
    refine SR.mono ?_
    rintro e w4 ⟨a4, c4, rfl, hown4, hp4, hc4, hb4⟩
    dsimp only
    have hsB := B3.size
    have B4 := nextB B3 hb4
    clear SR z1 z2 hall hlen k1 k2 k3 O3 hP C3 O1 hw3 OB BO B1 B3 hb4
    go_wp2
    go_ret2
    exact ⟨a4, c4, rfl, by rw [hflip.out]; exact own_base hown4 (by assumption), hc4, B4⟩
end Go.Proofs.Ytkbdclladfjmcaa
