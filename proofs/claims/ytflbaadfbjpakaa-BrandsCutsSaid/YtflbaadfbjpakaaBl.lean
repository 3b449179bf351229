/- Layer 2: Round, by the program. -/
import Derived.Test.YtflbaadfbjpakaaBk
namespace Go.Proofs.Ytflbaadfbjpakaa
open Go Go.RowKit

/-- What Round returns of a brand. -/
def GotR (n : Nat) (L : List (Int × Int)) (w : World) (e : Ending) (w' : World) : Prop :=
  ∃ g, e = .returned (.tuple #[.slice (some ⟨g, 0, none⟩) n n, .int .i64 0]) ∧ Blk w' g 3 (cI (roundL n L)) ∧ w.heap.size ≤ g ∧ Below w.heap.size w w'
theorem roundL_length (n : Nat) (L : List (Int × Int)) : (roundL n L).length = n := by
  have := (roundT_small (n := n) (T := tris n L) (fun i hi => tris_ok hi) _ (Nat.le_refl _)).1
  rwa [List.take_length] at this
set_option maxRecDepth 100000 in
set_option maxHeartbeats 800000 in
theorem Round_no (n : Int) (a : Option Addr) (m c : Nat) (L : List (Int × Int)) (w : World) (h : Prs w a L) (hl : L.length = m) (hcap : m ≤ c) (hm : m ≤ 4611686018427387904) (hB : ¬ BrandP n L) :
    Calls Try.prog 22 #[.int .i64 n, .slice a m c] w (Ret (.tuple #[.slice none 0 0, .int .i64 2]) w) := by
  have K := Lib.hid (brandOf_not n a m c L w h hl hcap hm hB)
  clear hB hl h
  go_enter Try.func22, Try.ntmps22
  go_wp2_with (go_at_call 48; refine K.out.mono ?_; rintro e w1 ⟨rfl, hb1⟩)
  go_ret2
  exact Ret.mk rfl (nextB hb1 (b1 _ _))
theorem Trs.other {w : World} {a : Option Addr} {T : List Tri} (h : Trs w a T) {g i : Nat} (hne : ∀ x, a = some x → g < x.block) (v : Value) : Trs (w.setCell ⟨g, i, none⟩ v) a T := by
  rcases h with h | ⟨b, rfl, hc⟩
  · exact .inl h
  · refine .inr ⟨b, rfl, fun k hk => ?_⟩
    have hb : (w.setCell ⟨g, i, none⟩ v).heap[b]? = w.heap[b]? := Below.heap_setCell w ⟨g, i, none⟩ v b (by have := hne _ rfl; simp at this ⊢; omega)
    obtain ⟨h1, h2, h3⟩ := hc k hk
    exact ⟨(World.cell?_of_block (a := ⟨b, _, none⟩) hb).trans h1, (World.cell?_of_block (a := ⟨b, _, none⟩) hb).trans h2, (World.cell?_of_block (a := ⟨b, _, none⟩) hb).trans h3⟩
theorem Blk.setB {W w : World} {B i : Nat} {v : Value} (h : Below w.heap.size w W) (hB : w.heap.size ≤ B) : Below w.heap.size w (W.setCell ⟨B, i, none⟩ v) := h.setCell hB _
set_option maxRecDepth 100000 in
set_option maxHeartbeats 4000000 in
theorem Round_yes (n : Nat) (a : Option Addr) (m c : Nat) (L : List (Int × Int)) (w : World) (h : Prs w a L) (hl : L.length = m) (hcap : m ≤ c) (hB : BrandP n L) :
    Calls Try.prog 22 #[.int .i64 n, .slice a m c] w (GotR n L w) := by
  have hn3 : 3 ≤ n := by have := hB.1; omega
  have hn : n ≤ 12 := by have := hB.2.1; omega
  have K := Lib.hid (brandOf_yes n a m c L w h hl hcap hB)
  have T : ∀ W, Below w.heap.size w W → _ := fun W hW => triangles_any n a m c L W (h.next hW) hl (by have := hB.2.2.1; have := hB.2.1; omega) (by have := hB.1; omega) (by have := hB.2.1; omega)
  replace T := Lib.hid T
  have hmk := make_ints n (by omega)
  have hT3 := tris_len L hn
  have hok := Lib.hid (fun i (hi : i < (tris n L).length) => tris_ok (n := n) (L := L) hi)
  have hsm := Lib.hid (roundT_small (n := n) (T := tris n L) hok.out)
  clear hB hl h
  have ix0 : ∀ (x y z : Int) (W : World), (Instr.index 29 (.agg #[.int .i64 x, .int .i64 y, .int .i64 z]) (.int .i64 0)).run Try.prog W = .ok (.int .i64 x) W := fun _ _ _ _ => by kernel_rfl
  have ix1 : ∀ (x y z : Int) (W : World), (Instr.index 29 (.agg #[.int .i64 x, .int .i64 y, .int .i64 z]) (.int .i64 1)).run Try.prog W = .ok (.int .i64 y) W := fun _ _ _ _ => by kernel_rfl
  have ix2 : ∀ (x y z : Int) (W : World), (Instr.index 29 (.agg #[.int .i64 x, .int .i64 y, .int .i64 z]) (.int .i64 2)).run Try.prog W = .ok (.int .i64 z) W := fun _ _ _ _ => by kernel_rfl
  go_enter Try.func22, Try.ntmps22
  go_wp2_with (go_at_call 48; refine K.out.mono ?_; rintro e w1 ⟨rfl, hb1⟩)
  clear hmk
  have B1 := nextB hb1 (b2 w1 (.cells #[.int .i64 n, .slice a m c] 66) (.cells (cI (List.replicate n 0)) 3))
  have I0 : Blk ((w1.alloc (.cells #[.int .i64 n, .slice a m c] 66)).alloc (.cells (cI (List.replicate n 0)) 3)) (w1.heap.size + 1) 3 (cI (List.replicate n 0)) := by
    have := Blk.new (w1.alloc (.cells #[.int .i64 n, .slice a m c] 66)) 3 (cI (List.replicate n 0))
    simpa using this
  have hsz := hb1.size
  go_wp2_with (go_at_call 52; refine (T.out _ B1).mono ?_; rintro e w2 ⟨v, rfl, hown, hb2⟩; have hol := hown.lt; obtain ⟨a1, c1, rfl, hc1, hT1⟩ := own_trs hown; clear hown; replace B1 := nextB B1 hb2; replace I0 := I0.ext hb2; clear hb2 hb1)
  have hga : ∀ x, a1 = some x → w1.heap.size + 1 < x.block := fun x hx => by
    subst hx
    have := (hol x.block rfl).1
    simp at this
    omega
  clear hol
  generalize hg : w1.heap.size + 1 = g at *
  have hwg : w.heap.size ≤ g := by omega
  clear hg hsz
  replace hga := Lib.hid hga
  have hN0 : roundT n ((tris n L).take 0) = List.replicate n 0 := rfl
  rw [← hN0] at I0
  clear hN0
  have hlT : Hid ((tris n L).length = (tris n L).length) := Lib.hid rfl
  obtain ⟨q, hq⟩ : ∃ q, q = (tris n L).length := ⟨_, rfl⟩
  rw [← hq] at hT3
  rw [← hq]
  replace hq := Lib.hid hq
  clear hc1 hlT
  go_loopw [26] (fun i wr => ∃ k : Nat, k ≤ q ∧ i = .int .i64 k ∧ Blk wr g 3 (cI (roundT n ((tris n L).take k))) ∧ Trs wr a1 (tris n L) ∧ Below w.heap.size w wr) (fun i _ => q - (intOf i).toNat)
  case atStart => exact ⟨0, by omega, rfl, I0, hT1, B1⟩
  case round =>
    clear I0 hT1 B1
    obtain ⟨k, hk, rfl, I0, hT1, B1⟩ := hrel
    by_cases hkq : k < q
    · rcases hT1 with hT1 | ⟨bt, rfl, hct⟩
      · exact absurd hq.out (by omega)
      replace hct := Lib.hid hct
      have hgb := hga.out _ rfl
      simp only [] at hgb
      obtain ⟨c0, c1', c2⟩ := hct.out k (by rw [← hq.out]; exact hkq)
      obtain ⟨o1, o2, o3⟩ := hok.out k (by rw [← hq.out]; exact hkq)
      have hs0 := Lib.hid (hsm.out k (by rw [← hq.out]; omega))
      have hst := Lib.hid (roundT_succ n (tris n L) k (by rw [← hq.out]; exact hkq))
      generalize roundT n ((tris n L).take k) = xs at *
      have hs1 := Lib.hid (hs0.out.bump (c := (tth (tris n L) k).1) (by omega))
      have hs2 := Lib.hid (hs1.out.bump (c := (tth (tris n L) k).2.1) (by omega))
      have hi0 : (0 : Int) ≤ (k : Int) := by omega
      have hi1 : (k : Int) < (q : Int) := by omega
      have q1 : ((tth (tris n L) k).1 : Int) < (n : Int) := by omega
      have q2 : ((tth (tris n L) k).2.1 : Int) < (n : Int) := by omega
      have q3 : ((tth (tris n L) k).2.2 : Int) < (n : Int) := by omega
      have q4 : (3 * (k : Int)) ≤ 9000 := by omega
      go_wp2
      have B2 := nextB B1 (b1 wr (.cells #[.int .i64 (tth (tris n L) k).1, .int .i64 (tth (tris n L) k).2.1, .int .i64 (tth (tris n L) k).2.2] 29))
      replace I0 := I0.alloc (.cells #[.int .i64 (tth (tris n L) k).1, .int .i64 (tth (tris n L) k).2.1, .int .i64 (tth (tris n L) k).2.2] 29)
      have hT2 : Trs (wr.alloc (.cells #[.int .i64 (tth (tris n L) k).1, .int .i64 (tth (tris n L) k).2.1, .int .i64 (tth (tris n L) k).2.2] 29)) (some ⟨bt, 0, none⟩) (tris n L) := Trs.next (.inr ⟨bt, rfl, hct.out⟩) (b1 _ _)
      clear B1 c0 c1' c2 hct
      go_loopw [31] (fun i wr => Trs wr (some ⟨bt, 0, none⟩) (tris n L) ∧ Below w.heap.size w wr ∧ ((i = .int .i64 0 ∧ Blk wr g 3 (cI xs)) ∨ (i = .int .i64 1 ∧ Blk wr g 3 (cI (bump xs (tth (tris n L) k).1))) ∨ (i = .int .i64 2 ∧ Blk wr g 3 (cI (bump (bump xs (tth (tris n L) k).1) (tth (tris n L) k).2.1))) ∨ (i = .int .i64 3 ∧ Blk wr g 3 (cI (bump3 xs (tth (tris n L) k)))))) (fun i _ => 3 - (intOf i).toNat)
      case atStart => exact ⟨hT2, B2, .inl ⟨rfl, I0⟩⟩
      case round =>
        clear hT2 B2 I0
        obtain ⟨hT2, B2, ⟨rfl, I0⟩ | ⟨rfl, I0⟩ | ⟨rfl, I0⟩ | ⟨rfl, I0⟩⟩ := hrel
        · have ci := I0.i (tth (tris n L) k).1 (by rw [hs0.out.1]; omega)
          have cf := I0.fr (tth (tris n L) k).1
          have cl := I0.lt
          have cb := hs0.out.2 (tth (tris n L) k).1 (by omega)
          go_wp2
          go_roundw
          case rel => exact ⟨hT2.other hga.out _, B2.setCell hwg _, .inr (.inl ⟨rfl, I0.setI _ _ (by rw [hs0.out.1]; omega)⟩)⟩
          case measure => simp [intOf]
        · have ci := I0.i (tth (tris n L) k).2.1 (by rw [hs1.out.1]; omega)
          have cf := I0.fr (tth (tris n L) k).2.1
          have cl := I0.lt
          have cb := hs1.out.2 (tth (tris n L) k).2.1 (by omega)
          go_wp2
          go_roundw
          case rel => exact ⟨hT2.other hga.out _, B2.setCell hwg _, .inr (.inr (.inl ⟨rfl, I0.setI _ _ (by rw [hs1.out.1]; omega)⟩))⟩
          case measure => simp [intOf]
        · have ci := I0.i (tth (tris n L) k).2.2 (by rw [hs2.out.1]; omega)
          have cf := I0.fr (tth (tris n L) k).2.2
          have cl := I0.lt
          have cb := hs2.out.2 (tth (tris n L) k).2.2 (by omega)
          go_wp2
          go_roundw
          case rel => exact ⟨hT2.other hga.out _, B2.setCell hwg _, .inr (.inr (.inr ⟨rfl, I0.setI _ _ (by rw [hs2.out.1]; omega)⟩))⟩
          case measure => simp [intOf]
        · go_wp2
          go_roundw
          case rel => exact ⟨k + 1, by omega, by go_num, by rw [hst.out]; exact I0, hT2, B2⟩
          case measure => simp [intOf]; omega
    · go_wp2
      go_ret2
      refine ⟨g, rfl, ?_, hwg, B1⟩
      have e : (tris n L).take k = tris n L := List.take_of_length_le (by rw [← hq.out]; omega)
      rw [e] at I0
      exact I0
end Go.Proofs.Ytflbaadfbjpakaa
