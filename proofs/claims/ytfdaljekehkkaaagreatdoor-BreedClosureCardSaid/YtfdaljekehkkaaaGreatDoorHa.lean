/- Layer 5, by the program: IsTree, Family, Kept. -/
import Derived.Test.YtfdaljekehkkaaaGreatDoorGf
import Derived.Test.YtfdaljekehkkaaaGreatDoorGb
import Derived.Test.YtfdaljekehkkaaaGreatDoorFc
namespace Go.Proofs.YtfdaljekehkkaaaGreatDoor
open Go Go.RowKit

open Classical in
/-- The tree of m beasts that the bytes are, or none. -/
noncomputable def trO (m : Nat) (l : List UInt8) : Option Tr := if h : ∃ t, IsTr m l t then some (Classical.choose h) else none
theorem trO_yes {m : Nat} {l : List UInt8} {t : Tr} (h : IsTr m l t) : trO m l = some t := by
  unfold trO
  rw [dif_pos ⟨t, h⟩]
  rw [(Classical.choose_spec (⟨t, h⟩ : ∃ t, IsTr m l t)).one h]
theorem trO_no {m : Nat} {l : List UInt8} (h : ∀ t, ¬ IsTr m l t) : trO m l = none := by
  unfold trO
  rw [dif_neg (fun ⟨t, k⟩ => h t k)]
/-- What treeOf returns, by that tree. -/
def TreeO (o : Option Tr) (w : World) (e : Ending) (w' : World) : Prop :=
  Below w.heap.size w w' ∧ ((∃ t v, o = some t ∧ Good 8 t ∧ TreeV (fun b => w.heap.size ≤ b) w' t v ∧ e = .returned (.tuple #[v, .int .i64 0])) ∨ (o = none ∧ e = .returned (.tuple #[.nilIface, .int .i64 5])))
theorem treeO_any (m : Nat) (l : List UInt8) (w : World) (h1 : 1 ≤ m) (h8 : m ≤ 8) (hT : Tab w) : Calls Tryz.prog 33 #[.int .i64 (m : Nat), strV l] w (TreeO (trO m l) w) :=
  (treeOf_any m l w h1 h8 hT).mono fun e w' ⟨hb, h⟩ => by
    refine ⟨hb, ?_⟩
    rcases h with ⟨t, v, ht, hv, he⟩ | ⟨hno, he⟩
    · exact .inl ⟨t, v, trO_yes ht, ht.1, hv, he⟩
    · exact .inr ⟨trO_no hno, he⟩
theorem trO_set {m : Nat} {l : List UInt8} {t : Tr} (h : trO m l = some t) : IsTr m l t := by
  unfold trO at h
  split at h
  · rename_i hh
    cases h
    exact Classical.choose_spec hh
  · cases h
theorem numB_nat {n : Int} (h : numB n = true) : ∃ m : Nat, n = (m : Int) ∧ 1 ≤ m ∧ m ≤ 8 := by
  unfold numB at h
  simp only [Bool.and_eq_true, decide_eq_true_eq] at h
  exact ⟨n.toNat, by omega, by omega, by omega⟩
/-- What Family returns. -/
noncomputable def famE (n : Int) (l : List UInt8) (a b : Int) : Int × Int :=
  if numB n = false then (0, 2) else match trO n.toNat l with
  | none => (0, 5)
  | some t => if beaB n a && beaB n b then ((famOf (pw a.toNat ||| pw b.toNat) t : Nat), 0) else (0, 2)
theorem bea_nat {m : Nat} {a : Int} (h8 : m ≤ 8) (h : beaB m a = true) : ∃ x : Nat, a = (x : Int) ∧ x < 9 := by
  unfold beaB at h
  simp only [Bool.and_eq_true, decide_eq_true_eq] at h
  exact ⟨a.toNat, by omega, by omega⟩
set_option maxRecDepth 100000 in
set_option maxHeartbeats 1000000 in
theorem Family_any (n : Int) (l : List UInt8) (a b : Int) (w : World) (hT : Tab w) : Calls Tryz.prog 18 #[.int .i64 n, strV l, .int .i64 a, .int .i64 b] w (Ret (.tuple #[.int .i64 (famE n l a b).1, .int .i64 (famE n l a b).2]) w) := by
  unfold famE
  cases hn : numB n
  · have K := Lib.hid (treeOf_bad n l w hn)
    simp only [if_true]
    clear hn hT
    go_enter Tryz.func18, Tryz.ntmps18
    go_wp2_with (go_at_call 33; refine K.out.mono ?_; rintro e w1 ⟨rfl, rfl⟩)
    go_ret2
    exact Ret.mk rfl (Below.refl _ _)
  · obtain ⟨m, rfl, h1, h8⟩ := numB_nat hn
    rw [Int.toNat_natCast]
    simp only [Bool.true_eq_false, if_false]
    have K := Lib.hid (treeO_any m l w h1 h8 hT)
    have BA := fun W => isBeast_any (m : Nat) a W
    have BB := fun W => isBeast_any (m : Nat) b W
    clear hn hT
    generalize trO m l = o at *
    cases o with
    | none =>
      clear BA BB
      dsimp only
      go_enter Tryz.func18, Tryz.ntmps18
      go_wp2_with fail
      refine K.out.mono ?_
      rintro e w2 ⟨hb2, ⟨t, v, hh, _, _, rfl⟩ | ⟨_, rfl⟩⟩
      · cases hh
      · go_wp2
        go_ret2
        exact Ret.mk rfl hb2
    | some t =>
      dsimp only
      cases ha : beaB m a
      · rw [ha] at BA
        clear BB
        simp only [Bool.false_and, Bool.false_eq_true, if_false]
        go_enter Tryz.func18, Tryz.ntmps18
        go_wp2_with fail
        refine K.out.mono ?_
        rintro e w2 ⟨hb2, ⟨t, v, _, _, _, rfl⟩ | ⟨hh, rfl⟩⟩
        · go_wp2_with (go_at_call 36; (with_reducible refine (BA _).mono ?_); rintro e w3 ⟨rfl, rfl⟩)
          go_ret2
          exact Ret.mk rfl hb2
        · cases hh
      · rw [ha] at BA
        cases hb : beaB m b
        · rw [hb] at BB
          simp only [Bool.and_false, Bool.false_eq_true, if_false]
          go_enter Tryz.func18, Tryz.ntmps18
          go_wp2_with fail
          refine K.out.mono ?_
          rintro e w2 ⟨hb2, ⟨t, v, _, _, _, rfl⟩ | ⟨hh, rfl⟩⟩
          · go_wp2_with (first
              | (go_at_call 36; (with_reducible refine (BA _).mono ?_); rintro e w3 ⟨rfl, rfl⟩)
              | (go_at_call 36; (with_reducible refine (BB _).mono ?_); rintro e w3 ⟨rfl, rfl⟩))
            go_ret2
            exact Ret.mk rfl hb2
          · cases hh
        · rw [hb] at BB
          obtain ⟨x, rfl, hx⟩ := bea_nat h8 ha
          obtain ⟨y, rfl, hy⟩ := bea_nat h8 hb
          simp only [Bool.and_self, if_true, Int.toNat_natCast]
          clear ha hb
          have hxy : pw x ||| pw y < 512 := Nat.or_lt_two_pow (n := 9) (pw_lt (k := 9) hx) (pw_lt (k := 9) hy)
          have SW := Lib.hid (fun W b (hB : Blk W b 3 #[.int .i64 (x : Int), .int .i64 (y : Int)]) => setWith2 W b 2 x y hB hx hy)
          go_enter Tryz.func18, Tryz.ntmps18
          go_wp2_with fail
          refine K.out.mono ?_
          rintro e w2 ⟨hb2, ⟨t', v, hh, _, hv, rfl⟩ | ⟨hh, rfl⟩⟩
          · simp only [Option.some.injEq] at hh
            subst hh
            have SW2 := Lib.hid (SW.out _ _ (Blk.new w2 3 #[.int .i64 (x : Int), .int .i64 (y : Int)]))
            have b3 := b1 w2 (.cells #[.int .i64 (x : Int), .int .i64 (y : Int)] 3)
            have F := Lib.hid (familyOf_any t _ v (pw x ||| pw y) _ (hv.next b3) hxy)
            replace b3 := Lib.hid b3
            clear hv
            generalize famOf (pw x ||| pw y) t = fo at *
            generalize pw x ||| pw y = q at *
            go_wp2_with (first
              | (go_at_call 36; (with_reducible refine (BA _).mono ?_); rintro e w3 ⟨rfl, rfl⟩)
              | (go_at_call 36; (with_reducible refine (BB _).mono ?_); rintro e w3 ⟨rfl, rfl⟩)
              | (go_at_call 38; (with_reducible refine SW2.out.mono ?_); rintro e w3 ⟨rfl, rfl⟩)
              | (go_at_call 37; (with_reducible refine F.out.mono ?_); rintro e w3 ⟨rfl, hb3⟩))
            go_ret2
            exact Ret.mk rfl (nextB (nextB hb2 b3.out) hb3)
          · cases hh
/-- What Kept returns. -/
noncomputable def kepE (n : Int) (l : List UInt8) (x : Int) : List UInt8 × Int :=
  if numB n = false then ([], 2) else match trO n.toNat l with
  | none => ([], 5)
  | some t => if stB n.toNat x then ((keepT x.toNat t).txt, 0) else ([], 2)
theorem st_nat {m : Nat} {x : Int} (h8 : m ≤ 8) (h : stB m x = true) : ∃ s : Nat, x = (s : Int) ∧ 1 ≤ s ∧ s ≤ pw m - 1 ∧ s < 256 := by
  unfold stB at h
  simp only [Bool.and_eq_true, decide_eq_true_eq] at h
  have := pw_mono (k := 8) h8
  have h256 : pw 8 = 256 := rfl
  have := pw_pos m
  exact ⟨x.toNat, by omega, by omega, by omega, by omega⟩
theorem full_and {m s : Nat} (hs : s ≤ pw m - 1) : (pw m - 1) &&& s = s := by
  have hp := pw_pos m
  apply Nat.eq_of_testBit_eq
  intro i
  rw [Nat.testBit_and]
  have e : (pw m - 1).testBit i = decide (i < m) := by unfold pw; exact Nat.testBit_two_pow_sub_one m i
  rw [e]
  cases hi : s.testBit i
  · simp
  · rw [decide_eq_true (test_lt (n := m) (by omega) hi)]; rfl
theorem Good.mono {m m' : Nat} (h : m ≤ m') : ∀ t, Good m t → Good m' t := by
  intro t
  induction t using Tr.ind with
  | h1 b => intro k; simp only [Good] at *; omega
  | h2 ks ih =>
    intro k
    simp only [Good] at *
    exact ⟨k.1, k.2.1, goodL_iff.2 fun t ht => ih t ht (goodL_iff.1 k.2.2 t ht)⟩
set_option maxRecDepth 100000 in
set_option maxHeartbeats 1000000 in
theorem Kept_any (n : Int) (l : List UInt8) (x : Int) (w : World) (hT : Tab w) : Calls Tryz.prog 17 #[.int .i64 n, strV l, .int .i64 x] w (Ret (.tuple #[strV (kepE n l x).1, .int .i64 (kepE n l x).2]) w) := by
  unfold kepE
  cases hn : numB n
  · have K := Lib.hid (treeOf_bad n l w hn)
    simp only [if_true]
    clear hn hT
    go_enter Tryz.func17, Tryz.ntmps17
    go_wp2_with (go_at_call 33; refine K.out.mono ?_; rintro e w1 ⟨rfl, rfl⟩)
    go_ret2
    exact Ret.mk rfl (Below.refl _ _)
  · obtain ⟨m, rfl, h1, h8⟩ := numB_nat hn
    rw [Int.toNat_natCast]
    simp only [Bool.true_eq_false, if_false]
    have K := Lib.hid (treeO_any m l w h1 h8 hT)
    have TS := Lib.hid (fun t (h : trO m l = some t) => (trO_set h).2.2)
    have S := fun W => setOf_any m x h8 W
    replace hT := Lib.hid hT
    clear hn
    generalize trO m l = o at *
    cases o with
    | none =>
      clear S
      dsimp only
      go_enter Tryz.func17, Tryz.ntmps17
      go_wp2_with fail
      refine K.out.mono ?_
      rintro e w2 ⟨hb2, ⟨t, v, hh, _, _, rfl⟩ | ⟨_, rfl⟩⟩
      · cases hh
      · go_wp2
        go_ret2
        exact Ret.mk rfl hb2
    | some t =>
      dsimp only
      cases hs : stB m x
      · rw [hs] at S
        simp only [Bool.false_eq_true, if_false] at S ⊢
        go_enter Tryz.func17, Tryz.ntmps17
        go_wp2_with fail
        refine K.out.mono ?_
        rintro e w2 ⟨hb2, ⟨t, v, _, _, _, rfl⟩ | ⟨hh, rfl⟩⟩
        · go_wp2_with (go_at_call 34; (with_reducible refine (S _).mono ?_); rintro e w3 ⟨rfl, rfl⟩)
          go_ret2
          exact Ret.mk rfl hb2
        · cases hh
      · rw [hs] at S
        obtain ⟨s, rfl, hs1, hs2, hs3⟩ := st_nat h8 hs
        have hts := TS.out t rfl
        simp only [if_true, Int.toNat_natCast] at S ⊢
        replace S := Lib.hid S
        clear hs
        go_enter Tryz.func17, Tryz.ntmps17
        go_wp2_with fail
        refine K.out.mono ?_
        rintro e w2 ⟨hb2, ⟨t', v, hh, hg, hv, rfl⟩ | ⟨hh, rfl⟩⟩
        · simp only [Option.some.injEq] at hh
          subst hh
          have hg9 := Good.mono (show 8 ≤ 9 by omega) t hg
          have hne : t.set &&& s ≠ 0 := by rw [hts, full_and hs2]; omega
          have KP := Lib.hid (kept_any t _ v s w2 hv hg9 (by omega) hne (hT.out.next hb2))
          have hsh := (keepT_good (by omega) s t hg9 hne).short (by omega)
          clear hv hg hg9 hne hts
          generalize keepT s t = kt at *
          go_wp2_with (first
            | (go_at_call 34; (with_reducible refine (S.out _).mono ?_); rintro e w3 ⟨rfl, rfl⟩)
            | (go_at_call 35; (with_reducible refine KP.out.mono ?_); rintro e w3 ⟨y, rfl, hy, hb3⟩; obtain ⟨ty, pay, f, arg, rfl, hm, he, hC⟩ := text_any kt _ _ w3 hy (by omega); clear hy; replace hC := Lib.hid hC)
            | ((with_reducible refine hC.out.mono ?_); rintro e w4 ⟨rfl, hb4⟩))
          go_ret2
          exact Ret.mk rfl (nextB (nextB hb2 hb3) hb4)
        · cases hh
end Go.Proofs.YtfdaljekehkkaaaGreatDoor
