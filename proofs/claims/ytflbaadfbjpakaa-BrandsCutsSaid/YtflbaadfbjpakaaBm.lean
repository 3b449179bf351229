/- Layer 2: Triangles and Round, by the specification. -/
import Derived.Test.YtflbaadfbjpakaaBl
namespace Go.Proofs.Ytflbaadfbjpakaa
open Go Go.RowKit

set_option maxRecDepth 100000 in
set_option maxHeartbeats 800000 in
theorem refTriangles_no (n : Int) (a : Option Addr) (m c : Nat) (L : List (Int × Int)) (w : World) (h : Prs w a L) (hl : L.length = m) (hm : m ≤ 4611686018427387904) (hB : ¬ BrandP n L) :
    Calls Try.prog 21 #[.int .i64 n, .slice a m c] w (Ret (.tuple #[.slice none 0 0, .int .i64 2]) w) := by
  have K := refIsBrand_any n a m c L w h hl hm
  rw [decide_eq_false hB] at K
  replace K := Lib.hid K
  clear hB hl h
  go_enter Try.func21, Try.ntmps21
  go_wp2_with (go_at_call 19; refine K.out.mono ?_; rintro e w1 ⟨rfl, hb1⟩)
  go_ret2
  exact Ret.mk rfl hb1
set_option maxRecDepth 100000 in
set_option maxHeartbeats 800000 in
theorem refTriangles_yes (n : Nat) (a : Option Addr) (m c : Nat) (L : List (Int × Int)) (w : World) (h : Prs w a L) (hl : L.length = m) (hB : BrandP n L) :
    Calls Try.prog 21 #[.int .i64 n, .slice a m c] w (GotT n L w) := by
  have K := refIsBrand_any n a m c L w h hl (by have := hB.2.2.1; have := hB.2.1; omega)
  rw [decide_eq_true hB] at K
  replace K := Lib.hid K
  have T : ∀ W, Below w.heap.size w W → _ := fun W hW => refTriangles_any n a m c L W (h.next hW) hl (by have := hB.2.2.1; have := hB.2.1; omega) (by have := hB.1; omega) (by have := hB.2.1; omega)
  replace T := Lib.hid T
  clear hB hl h
  go_enter Try.func21, Try.ntmps21
  go_wp2_with (first
    | (go_at_call 19; refine K.out.mono ?_; rintro e w1 ⟨rfl, hb1⟩)
    | (go_at_call 53; refine (T.out _ hb1).mono ?_; rintro e w2 ⟨v, rfl, hown, hb2⟩; replace hb2 := nextB hb1 hb2; have ho := Lib.hid hown; obtain ⟨a1, c1, rfl, hc1, hT1⟩ := own_trs hown))
  go_ret2
  exact ⟨a1, c1, rfl, own_base ho.out (by have := hb1.size; simp; omega), hT1, hc1, hb2⟩
set_option maxRecDepth 100000 in
set_option maxHeartbeats 800000 in
theorem refRound_no (n : Int) (a : Option Addr) (m c : Nat) (L : List (Int × Int)) (w : World) (h : Prs w a L) (hl : L.length = m) (hm : m ≤ 4611686018427387904) (hB : ¬ BrandP n L) :
    Calls Try.prog 23 #[.int .i64 n, .slice a m c] w (Ret (.tuple #[.slice none 0 0, .int .i64 2]) w) := by
  have K := refIsBrand_any n a m c L w h hl hm
  rw [decide_eq_false hB] at K
  replace K := Lib.hid K
  clear hB hl h
  go_enter Try.func23, Try.ntmps23
  go_wp2_with (go_at_call 19; refine K.out.mono ?_; rintro e w1 ⟨rfl, hb1⟩)
  go_ret2
  exact Ret.mk rfl hb1
set_option maxRecDepth 100000 in
set_option maxHeartbeats 4000000 in
theorem refRound_yes (n : Nat) (a : Option Addr) (m c : Nat) (L : List (Int × Int)) (w : World) (h : Prs w a L) (hl : L.length = m) (hB : BrandP n L) :
    Calls Try.prog 23 #[.int .i64 n, .slice a m c] w (GotR n L w) := by
  have hn3 : 3 ≤ n := by have := hB.1; omega
  have hn : n ≤ 12 := by have := hB.2.1; omega
  have K := refIsBrand_any n a m c L w h hl (by have := hB.2.2.1; have := hB.2.1; omega)
  rw [decide_eq_true hB] at K
  replace K := Lib.hid K
  have T : ∀ W, Below w.heap.size w W → _ := fun W hW => refTriangles_any n a m c L W (h.next hW) hl (by have := hB.2.2.1; have := hB.2.1; omega) (by have := hB.1; omega) (by have := hB.2.1; omega)
  replace T := Lib.hid T
  have hmk := make_ints n (by omega)
  have hT3 := tris_len L hn
  have hok := Lib.hid (fun i (hi : i < (tris n L).length) => tris_ok (n := n) (L := L) hi)
  have hsm := Lib.hid (roundT_small (n := n) (T := tris n L) hok.out)
  clear hB hl h
  go_enter Try.func23, Try.ntmps23
  go_wp2_with (go_at_call 19; refine K.out.mono ?_; rintro e w1 ⟨rfl, hb1⟩)
  clear hmk
  have B1 := nextB hb1 (b1 w1 (.cells (cI (List.replicate n 0)) 3))
  have I0 := Blk.new w1 3 (cI (List.replicate n 0))
  have hsz := hb1.size
  go_wp2_with (go_at_call 53; refine (T.out _ B1).mono ?_; rintro e w2 ⟨v, rfl, hown, hb2⟩; have hol := hown.lt; obtain ⟨a1, c1, rfl, hc1, hT1⟩ := own_trs hown; clear hown; replace B1 := nextB B1 hb2; replace I0 := I0.ext hb2; clear hb2 hb1)
  have hga : ∀ x, a1 = some x → w1.heap.size < x.block := fun x hx => by
    subst hx
    have := (hol x.block rfl).1
    simp at this
    omega
  clear hol
  generalize hg : w1.heap.size = g at *
  have hwg : w.heap.size ≤ g := by omega
  clear hg hsz
  replace hga := Lib.hid hga
  have hN0 : roundT n ((tris n L).take 0) = List.replicate n 0 := rfl
  rw [← hN0] at I0
  clear hN0
  have hlT : Hid ((tris n L).length = (tris n L).length) := Lib.hid rfl
  obtain ⟨q, hq⟩ : ∃ q, q = (tris n L).length := ⟨_, rfl⟩
  rw [← hq] at hT3
  rw [← hq]
  replace hq := Lib.hid hq
  clear hc1 hlT
  go_loopw [8] (fun i wr => ∃ k : Nat, k ≤ q ∧ i = .int .i64 k ∧ Blk wr g 3 (cI (roundT n ((tris n L).take k))) ∧ Trs wr a1 (tris n L) ∧ Below w.heap.size w wr) (fun i _ => q - (intOf i).toNat)
  case atStart => exact ⟨0, by omega, rfl, I0, hT1, B1⟩
  case round =>
    clear I0 hT1 B1
    obtain ⟨k, hk, rfl, I0, hT1, B1⟩ := hrel
    by_cases hkq : k < q
    · rcases hT1 with hT1 | ⟨bt, rfl, hct⟩
      · exact absurd hq.out (by omega)
      replace hct := Lib.hid hct
      have hgb := hga.out _ rfl
      simp only [] at hgb
      obtain ⟨c0, c1', c2⟩ := hct.out k (by rw [← hq.out]; exact hkq)
      obtain ⟨o1, o2, o3⟩ := hok.out k (by rw [← hq.out]; exact hkq)
      have hs0 := Lib.hid (hsm.out k (by rw [← hq.out]; omega))
      have hst := Lib.hid (roundT_succ n (tris n L) k (by rw [← hq.out]; exact hkq))
      generalize roundT n ((tris n L).take k) = xs at *
      have hs1 := Lib.hid (hs0.out.bump (c := (tth (tris n L) k).1) (by omega))
      have hs2 := Lib.hid (hs1.out.bump (c := (tth (tris n L) k).2.1) (by omega))
      have hi0 : (0 : Int) ≤ (k : Int) := by omega
      have hi1 : (k : Int) < (q : Int) := by omega
      have q1 : ((tth (tris n L) k).1 : Int) < (n : Int) := by omega
      have q2 : ((tth (tris n L) k).2.1 : Int) < (n : Int) := by omega
      have q3 : ((tth (tris n L) k).2.2 : Int) < (n : Int) := by omega
      have q4 : (3 * (k : Int)) ≤ 9000 := by omega
      go_wp2
      have hT2 : Trs wr (some ⟨bt, 0, none⟩) (tris n L) := .inr ⟨bt, rfl, hct.out⟩
      have B2 := B1
      clear B1 c0 c1' c2 hct
      go_loopw [9] (fun i wr => Trs wr (some ⟨bt, 0, none⟩) (tris n L) ∧ Below w.heap.size w wr ∧ ((i = .int .i64 0 ∧ Blk wr g 3 (cI xs)) ∨ (i = .int .i64 1 ∧ Blk wr g 3 (cI (bump xs (tth (tris n L) k).1))) ∨ (i = .int .i64 2 ∧ Blk wr g 3 (cI (bump (bump xs (tth (tris n L) k).1) (tth (tris n L) k).2.1))) ∨ (i = .int .i64 3 ∧ Blk wr g 3 (cI (bump3 xs (tth (tris n L) k)))))) (fun i _ => 3 - (intOf i).toNat)
      case atStart => exact ⟨hT2, B2, .inl ⟨rfl, I0⟩⟩
      case round =>
        clear hT2 B2 I0
        obtain ⟨hT2, B2, hrel⟩ := hrel
        rcases id hT2 with hT3' | ⟨bt', ebt, hct⟩
        · exact absurd hq.out (by omega)
        cases ebt
        obtain ⟨c0, c1', c2⟩ := hct k (by rw [← hq.out]; exact hkq)
        clear hct
        rcases hrel with ⟨rfl, I0⟩ | ⟨rfl, I0⟩ | ⟨rfl, I0⟩ | ⟨rfl, I0⟩
        · have ci := I0.i (tth (tris n L) k).1 (by rw [hs0.out.1]; omega)
          have cf := I0.fr (tth (tris n L) k).1
          have cl := I0.lt
          have cb := hs0.out.2 (tth (tris n L) k).1 (by omega)
          go_wp2
          go_roundw
          case rel => exact ⟨hT2.other hga.out _, B2.setCell hwg _, .inr (.inl ⟨rfl, I0.setI _ _ (by rw [hs0.out.1]; omega)⟩)⟩
          case measure => simp [intOf]
        · have ci := I0.i (tth (tris n L) k).2.1 (by rw [hs1.out.1]; omega)
          have cf := I0.fr (tth (tris n L) k).2.1
          have cl := I0.lt
          have cb := hs1.out.2 (tth (tris n L) k).2.1 (by omega)
          go_wp2
          go_roundw
          case rel => exact ⟨hT2.other hga.out _, B2.setCell hwg _, .inr (.inr (.inl ⟨rfl, I0.setI _ _ (by rw [hs1.out.1]; omega)⟩))⟩
          case measure => simp [intOf]
        · have ci := I0.i (tth (tris n L) k).2.2 (by rw [hs2.out.1]; omega)
          have cf := I0.fr (tth (tris n L) k).2.2
          have cl := I0.lt
          have cb := hs2.out.2 (tth (tris n L) k).2.2 (by omega)
          go_wp2
          go_roundw
          case rel => exact ⟨hT2.other hga.out _, B2.setCell hwg _, .inr (.inr (.inr ⟨rfl, I0.setI _ _ (by rw [hs2.out.1]; omega)⟩))⟩
          case measure => simp [intOf]
        · go_wp2
          go_roundw
          case rel => exact ⟨k + 1, by omega, by go_num, by rw [hst.out]; exact I0, hT2, B2⟩
          case measure => simp [intOf]; omega
    · go_wp2
      go_ret2
      refine ⟨g, rfl, ?_, hwg, B1⟩
      have e : (tris n L).take k = tris n L := List.take_of_length_le (by rw [← hq.out]; omega)
      rw [e] at I0
      exact I0
end Go.Proofs.Ytflbaadfbjpakaa
