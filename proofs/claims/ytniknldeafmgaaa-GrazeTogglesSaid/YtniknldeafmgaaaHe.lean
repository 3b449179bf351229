/- Layer 8, by the program: Turns, Turn. -/
import Derived.Test.YtniknldeafmgaaaHc
namespace Go.Proofs.Ytniknldeafmgaaa
set_option linter.unusedSimpArgs false
set_option linter.unusedVariables false
open Go Go.RowKit

/-- The i-th pair. -/
def pth (L : List (Int × Int)) (i : Nat) : Int × Int := L.getD i (0, 0)
/-- The slice at a holds the pairs L. -/
def Prs (w : World) (a : Option Addr) (L : List (Int × Int)) : Prop :=
  L.length = 0 ∨ ∃ b off, a = some ⟨b, off, none⟩ ∧ ∀ i, i < L.length → w.cell? ⟨b, off + i * 2, none⟩ = some (.int .i64 (pth L i).1) ∧ w.cell? ⟨b, off + i * 2 + 1, none⟩ = some (.int .i64 (pth L i).2)
theorem Prs.next {w w' : World} {a : Option Addr} {L : List (Int × Int)} (h : Prs w a L) (hb : Below w.heap.size w w') : Prs w' a L := by
  rcases h with h | ⟨b, off, e, hc⟩
  · exact .inl h
  · exact .inr ⟨b, off, e, fun i hi => ⟨cellB hb (hc i hi).1, cellB hb (hc i hi).2⟩⟩
theorem prs_at {w : World} {a : Option Addr} {L : List (Int × Int)} (h : Prs w a L) (hn : 0 < L.length) :
    ∃ b off, a = some ⟨b, off, none⟩ ∧ ∀ i, i < L.length → w.cell? ⟨b, off + i * 2, none⟩ = some (.int .i64 (pth L i).1) ∧ w.cell? ⟨b, off + i * 2 + 1, none⟩ = some (.int .i64 (pth L i).2) := by
  rcases h with h | h
  · omega
  · exact h
/-- The state behind the turns of these plots. -/
def tnsF (a b : Nat) (g : Nat → Nat) (L : List (Int × Int)) : Nat → Nat := L.foldl (fun g p => tnf a b g p.1.toNat p.2.toNat) g
theorem tnsF_snoc (a b : Nat) (g : Nat → Nat) (L : List (Int × Int)) (p : Int × Int) : tnsF a b g (L ++ [p]) = tnf a b (tnsF a b g L) p.1.toNat p.2.toNat := by unfold tnsF; rw [List.foldl_append]; rfl
theorem tnsF_P {a b : Nat} {g : Nat → Nat} (h : IsP a b g) : ∀ L : List (Int × Int), IsP a b (tnsF a b g L) := fun L => by
  induction L generalizing g with
  | nil => exact h
  | cons p L ih => exact ih (tnf_P h _ _)
theorem take_snocP (L : List (Int × Int)) (k : Nat) (h : k < L.length) : L.take (k + 1) = L.take k ++ [pth L k] := by
  rw [List.take_succ_eq_append_getElem h]; simp [pth, h]
set_option maxRecDepth 100000 in
set_option maxHeartbeats 4000000 in
theorem Turns_core (a b : Nat) (g : Nat → Nat) (L : List (Int × Int)) (ad ap : Option Addr) (c n cp k0 : Nat) (w : World) (Q : Ending → World → Prop) (hs : IsS a b g) (hI : Ints w ad (stL a g)) (hL : Prs w ap L) (hl : L.length = n) (hn : n ≤ 200) (hk0 : k0 ≤ n)
    (hok : ∀ i, i < k0 → HasP a b (pth L i).1 (pth L i).2) (hE : (k0 = n ∧ Q = CopyE (stL a (tnsF a b g L)) w) ∨ (k0 < n ∧ ¬ HasP a b (pth L k0).1 (pth L k0).2 ∧ Q = ErrL 2 w)) :
    Calls Try.prog 25 #[.int .i64 (a : Int), .int .i64 (b : Int), .slice ad a c, .slice ap n cp] w Q := by
  have hP := pastureOf_yes a b g ad c w hs hI
  have hc : Hid (∀ i, i < n → ∃ B off, ap = some ⟨B, off, none⟩ ∧ ∀ j, j < n → w.cell? ⟨B, off + j * 2, none⟩ = some (.int .i64 (pth L j).1) ∧ w.cell? ⟨B, off + j * 2 + 1, none⟩ = some (.int .i64 (pth L j).2)) := Lib.hid (fun i hi => by
    obtain ⟨B, off, h1, h2⟩ := prs_at hL (by omega)
    exact ⟨B, off, h1, by rw [hl] at h2; exact h2⟩)
  have htk := Lib.hid (fun k (h : k < n) => tnsF_snoc a b g (L.take k) (pth L k))
  have hsn := Lib.hid (fun k (h : k < n) => take_snocP L k (by omega))
  have hPk := Lib.hid (fun k => tnsF_P hs.p (L.take k))
  have h1 := hs.p.a1
  have h6 := hs.p.a6
  have hb6 := hs.p.b6
  have h0 : Hid (tnsF a b g (L.take 0) = g) := Lib.hid rfl
  have hall : Hid (tnsF a b g (L.take n) = tnsF a b g L) := Lib.hid (by rw [← hl, List.take_length])
  replace hok := Lib.hid hok
  replace hE := Lib.hid hE
  clear hs hI hL hl
  go_enter Try.func25, Try.ntmps25
  go_upto_region 2 with (go_at_call 57; refine hP.mono ?_; rintro _ w1 ⟨rfl, hw1⟩)
  have k0' := Lib.hid (Blk.new w1 66 (pC a b g))
  have B := Lib.hid (hw1.trans ((b1 w1 (.cells (pC a b g) 66)).mono hw1.size))
  have hD : w.heap.size ≤ w1.heap.size := hw1.size
  clear hw1 hP
  generalize w1.alloc (.cells (pC a b g) 66) = W at *
  generalize w1.heap.size = D at *
  have hn' : (n : Int) ≤ 200 := by omega
  go_wp2
  go_loopw [13, 29] (fun _ q wr => ∃ k : Nat, k ≤ k0 ∧ q = .int .i64 (k : Int) ∧ Blk wr D 66 (pC a b (tnsF a b g (L.take k))) ∧ Below w.heap.size w wr) (fun _ q _ => n - (intOf q).toNat)
  case atStart => exact ⟨0, Nat.zero_le _, rfl, by rw [h0.out]; exact k0'.out, B.out⟩
  case round =>
    clear k0' B
    obtain ⟨k, hk, rfl, kD, B⟩ := hrel
    replace B := Lib.hid B
    replace kD := Lib.hid kD
    have hDl := kD.out.lt
    by_cases hkn : k < n
    · have hka' : (k : Int) < (n : Int) := by omega
      obtain ⟨Bp, off, rfl, hcell⟩ := hc.out k hkn
      obtain ⟨x0, x1⟩ := hcell k hkn
      have x0 := cellB B.out x0
      have x1 := cellB B.out x1
      replace hcell := Lib.hid hcell
      have htk' := Lib.hid (htk.out k hkn)
      have hsn' := Lib.hid (hsn.out k hkn)
      have hPk' := Lib.hid (hPk.out k)
      have hok' := Lib.hid (fun h => hok.out k h)
      have hE' : Hid (k0 ≤ k → ¬ HasP a b (pth L k).1 (pth L k).2 ∧ Q = ErrL 2 w) := Lib.hid (fun h => by
        obtain rfl : k0 = k := by omega
        rcases hE.out with ⟨h, _⟩ | ⟨_, h1, h2⟩
        · omega
        · exact ⟨h1, h2⟩)
      obtain ⟨F, hF⟩ : ∃ F, Hid (tnsF a b g (L.take k) = F) := ⟨_, Lib.hid rfl⟩
      rw [hF.out] at kD htk' hPk'
      obtain ⟨x, hx⟩ : ∃ x, Hid ((pth L k).1 = x) := ⟨_, Lib.hid rfl⟩
      obtain ⟨y, hy⟩ : ∃ y, Hid ((pth L k).2 = y) := ⟨_, Lib.hid rfl⟩
      rw [hx.out] at x0 htk' hok' hE'
      rw [hy.out] at x1 htk' hok' hE'
      have j0 := Lib.hid (kD.out.alloc (.cells (qC x y) 31))
      have j3 := Lib.hid (Blk.new wr 31 (qC x y))
      have hB := Lib.hid (B.out.trans ((b1 wr (.cells (qC x y) 31)).mono B.out.size))
      go_upto_region 9 with (fail)
      clear kD B x0 x1
      have kD := j0
      have k3 := j3
      have B := hB
      clear j0 j3 hB
      generalize (wr.alloc (.cells (qC x y) 31)) = W2 at *
      generalize wr.heap.size = D2 at *
      obtain ⟨p0, p1, p2, p3, p4, p5, p6, p7⟩ := kD.out.pc
      obtain ⟨q0, q1⟩ := k3.out.qc
      by_cases hkk : k < k0
      · have hH := hok'.out hkk
        have hC := Lib.hid (fun w => by have := has_any a b F x y w; rwa [decide_eq_true hH] at this)
        unfold HasP at hH
        obtain ⟨i, rfl⟩ : ∃ i : Nat, x = (i : Int) := ⟨x.toNat, by omega⟩
        obtain ⟨j, rfl⟩ : ∃ j : Nat, y = (j : Int) := ⟨y.toNat, by omega⟩
        have hT := Lib.hid (fun w => turned_any a b F i j w hPk'.out (by omega))
        have htk2 : Hid (tnsF a b g (L.take (k + 1)) = tnf a b F i j) := Lib.hid (by rw [hsn'.out]; have := htk'.out; exact this)
        clear hH hok' hE' htk'
        go_upto_region 11 with (go_at_call 58; (with_reducible refine (hC.out _).mono ?_); rintro _ w1 ⟨rfl, hw1⟩)
        replace B := Lib.hid (nextB B.out hw1)
        replace kD := kD.out.ext hw1
        replace k3 := k3.out.ext hw1
        clear p0 p1 p2 p3 p4 p5 p6 p7 q0 q1 hw1
        obtain ⟨p0, p1, p2, p3, p4, p5, p6, p7⟩ := kD.pc
        obtain ⟨q0, q1⟩ := k3.qc
        go_wp2_with (go_at_call 59; (with_reducible refine (hT.out _).mono ?_); rintro _ w2 ⟨rfl, hw2⟩; replace B := Lib.hid (nextB B.out hw2); replace kD := kD.ext hw2; clear p0 p1 p2 p3 p4 p5 p6 p7 q0 q1 k3; obtain ⟨p0, p1, p2, p3, p4, p5, p6, p7⟩ := kD.pc; have f0 := kD.fr; have m0 := Lib.hid (blk_set8 kD a b (tnf a b F i j)); have mB := Lib.hid (B.out.trans (below_grown (grown_put8 w2 D a b (tnf a b F i j)) B.out.size hD)); clear kD hw2)
        go_roundw
        case rel => exact ⟨k + 1, by omega, by go_num, by rw [htk2.out]; exact m0.out, mB.out⟩
        case measure => simp [intOf]; omega
      · obtain ⟨hH, hQ⟩ := hE'.out (by omega)
        have hC := Lib.hid (fun w => by have := has_any a b F x y w; rwa [decide_eq_false hH] at this)
        clear hH hok' hE' hE
        subst hQ
        go_wp2_with (go_at_call 58; (with_reducible refine (hC.out _).mono ?_); rintro _ w1 ⟨rfl, hw1⟩)
        go_ret2
        exact Ret.mk rfl (nextB B.out hw1)
    · have hkn' : (n : Int) ≤ (k : Int) := by omega
      have hke : Hid (k = n ∧ k0 = n) := Lib.hid (by omega)
      have hQ : Hid (Q = CopyE (stL a (tnsF a b g L)) w) := Lib.hid (by
        rcases hE.out with ⟨_, h⟩ | ⟨h, _⟩
        · exact h
        · have := hke.out; omega)
      have hQ := hQ.out
      clear hE
      subst hQ
      rw [hke.out.1, hall.out] at kD
      have hLs := Lib.hid (fun w => list_any a b (tnsF a b g L) w (by have := hPk.out n; rwa [hall.out] at this))
      generalize tnsF a b g L = F at *
      obtain ⟨p0, p1, p2, p3, p4, p5, p6, p7⟩ := kD.out.pc
      go_wp2_with (go_at_call 60; (with_reducible refine (hLs.out _).mono ?_); rintro _ w3 ⟨G, c3, rfl, hc3, hG, hcell, hw3⟩)
      go_ret2
      have e1 := B.out.size
      exact ⟨G, c3, rfl, hc3, by omega, hcell, nextB B.out hw3⟩
theorem Turns_yes (a b : Nat) (g : Nat → Nat) (L : List (Int × Int)) (ad ap : Option Addr) (c n cp : Nat) (w : World) (hs : IsS a b g) (hI : Ints w ad (stL a g)) (hL : Prs w ap L) (hl : L.length = n) (hn : n ≤ 200)
    (hok : ∀ i, i < n → HasP a b (pth L i).1 (pth L i).2) :
    Calls Try.prog 25 #[.int .i64 (a : Int), .int .i64 (b : Int), .slice ad a c, .slice ap n cp] w (CopyE (stL a (tnsF a b g L)) w) :=
  Turns_core a b g L ad ap c n cp n w _ hs hI hL hl hn (Nat.le_refl _) hok (.inl ⟨rfl, rfl⟩)
theorem Turns_bad (a b : Nat) (g : Nat → Nat) (L : List (Int × Int)) (ad ap : Option Addr) (c n cp : Nat) (w : World) (hs : IsS a b g) (hI : Ints w ad (stL a g)) (hL : Prs w ap L) (hl : L.length = n) (hn : n ≤ 200)
    (hno : ¬ ∀ i, i < n → HasP a b (pth L i).1 (pth L i).2) :
    Calls Try.prog 25 #[.int .i64 (a : Int), .int .i64 (b : Int), .slice ad a c, .slice ap n cp] w (ErrL 2 w) := by
  rcases least_bad (P := fun i => HasP a b (pth L i).1 (pth L i).2) n with h | ⟨k, h1, h2, h3⟩
  · exact absurd h hno
  · exact Turns_core a b g L ad ap c n cp k w _ hs hI hL hl hn (by omega) h3 (.inr ⟨h1, h2, rfl⟩)
theorem Turns_long (a b : Nat) (g : Nat → Nat) (ad ap : Option Addr) (c n cp : Nat) (w : World) (hs : IsS a b g) (hI : Ints w ad (stL a g)) (hn : 200 < n) :
    Calls Try.prog 25 #[.int .i64 (a : Int), .int .i64 (b : Int), .slice ad a c, .slice ap n cp] w (ErrL 3 w) := by
  have hP := pastureOf_yes a b g ad c w hs hI
  have hn' : (200 : Int) < (n : Int) := by omega
  clear hs hI
  go_enter Try.func25, Try.ntmps25
  go_wp2_with (go_at_call 57; refine hP.mono ?_; rintro _ w1 ⟨rfl, hw1⟩)
  go_ret2
  exact Ret.mk rfl (hw1.trans ((b1 w1 _).mono hw1.size))
theorem Turns_no (a b : Int) (xs : List Int) (ad : Option Addr) (n c : Nat) (pv : Value) (w : World) (hI : Ints w ad xs) (hl : xs.length = n) (h : ¬ StP a b xs) :
    Calls Try.prog 25 #[.int .i64 a, .int .i64 b, .slice ad n c, pv] w (ErrL 2 w) := by
  have hP := pastureOf_no a b xs ad n c w hI hl h
  clear h hI hl
  go_enter Try.func25, Try.ntmps25
  go_wp2_with (go_at_call 57; refine hP.mono ?_; rintro _ w1 ⟨rfl, hw1⟩)
  go_ret2
  exact Ret.mk rfl (hw1.trans ((b1 w1 _).mono hw1.size))
theorem prs_one (w : World) (x y : Int) (t : TypeId) : Prs (w.alloc (.cells #[.int .i64 x, .int .i64 y] t)) (some ⟨w.heap.size, 0, none⟩) [(x, y)] := by
  refine .inr ⟨_, 0, rfl, fun i hi => ?_⟩
  obtain rfl : i = 0 := by simp at hi; omega
  exact ⟨(Blk.new w t _).c 0 rfl, (Blk.new w t _).c 1 rfl⟩
theorem prs_two (w : World) (x y x' y' : Int) (t : TypeId) : Prs (w.alloc (.cells #[.int .i64 x, .int .i64 y, .int .i64 x', .int .i64 y'] t)) (some ⟨w.heap.size, 0, none⟩) [(x, y), (x', y')] := by
  refine .inr ⟨_, 0, rfl, fun i hi => ?_⟩
  have hi2 : i < 2 := hi
  rcases (show i = 0 ∨ i = 1 by omega) with rfl | rfl
  · exact ⟨(Blk.new w t _).c 0 rfl, (Blk.new w t _).c 1 rfl⟩
  · exact ⟨(Blk.new w t _).c 2 rfl, (Blk.new w t _).c 3 rfl⟩
end Go.Proofs.Ytniknldeafmgaaa
