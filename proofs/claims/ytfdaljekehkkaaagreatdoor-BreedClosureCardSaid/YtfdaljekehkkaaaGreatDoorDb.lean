/- Layer 5, by the program: triples; which lists of them are of n beasts. -/
import Derived.Test.YtfdaljekehkkaaaGreatDoorDa
namespace Go.Proofs.YtfdaljekehkkaaaGreatDoor
open Go Go.RowKit

abbrev T3 := Int × Int × Int
def tth (L : List T3) (i : Nat) : T3 := L.getD i (0, 0, 0)
theorem tth_mem {L : List T3} {i : Nat} (h : i < L.length) : tth L i ∈ L := by
  unfold tth; rw [List.getD_eq_getElem?_getD, List.getElem?_eq_getElem h]; exact List.getElem_mem h
theorem tth_get {L : List T3} {i : Nat} (h : i < L.length) : tth L i = L[i] := by simp [tth, h]
/-- A triple as a value. -/
abbrev t3V (t : T3) : Value := .agg #[.int .i64 t.1, .int .i64 t.2.1, .int .i64 t.2.2]
/-- The slice at a holds the triples L. -/
def Trips (w : World) (a : Option Addr) (L : List T3) : Prop :=
  L.length = 0 ∨ ∃ b off, a = some ⟨b, off, none⟩ ∧ ∀ i, i < L.length → w.cell? ⟨b, off + i * 3, none⟩ = some (.int .i64 (tth L i).1) ∧ w.cell? ⟨b, off + i * 3 + 1, none⟩ = some (.int .i64 (tth L i).2.1) ∧ w.cell? ⟨b, off + i * 3 + 2, none⟩ = some (.int .i64 (tth L i).2.2)
theorem Trips.next {w w' : World} {a : Option Addr} {L : List T3} (h : Trips w a L) (hb : Below w.heap.size w w') : Trips w' a L := by
  rcases h with h | ⟨b, off, e, hc⟩
  · exact .inl h
  · exact .inr ⟨b, off, e, fun i hi => ⟨cellB hb (hc i hi).1, cellB hb (hc i hi).2.1, cellB hb (hc i hi).2.2⟩⟩
theorem trips_at {w : World} {a : Option Addr} {L : List T3} (h : Trips w a L) (hn : 0 < L.length) :
    ∃ b off, a = some ⟨b, off, none⟩ ∧ ∀ i, i < L.length → w.cell? ⟨b, off + i * 3, none⟩ = some (.int .i64 (tth L i).1) ∧ w.cell? ⟨b, off + i * 3 + 1, none⟩ = some (.int .i64 (tth L i).2.1) ∧ w.cell? ⟨b, off + i * 3 + 2, none⟩ = some (.int .i64 (tth L i).2.2) := by
  rcases h with h | h
  · omega
  · exact h
/-- Is it a triple of n beasts? -/
def isT (n : Int) (t : T3) : Bool := beaB n t.1 && beaB n t.2.1 && beaB n t.2.2 && decide (t.1 < t.2.1) && (t.1 != t.2.2) && (t.2.1 != t.2.2)
set_option maxRecDepth 100000 in
set_option maxHeartbeats 1000000 in
theorem isTriple_any (n a b c : Int) (w : World) : Calls Tryz.prog 39 #[.int .i64 n, .agg #[.int .i64 a, .int .i64 b, .int .i64 c]] w (Ret (.bool (isT n (a, b, c))) w) := by
  have KA := fun W => isBeast_any n a W
  have KB := fun W => isBeast_any n b W
  have KC := fun W => isBeast_any n c W
  show Calls Tryz.prog _ _ w (Ret (.bool (beaB n a && beaB n b && beaB n c && decide (a < b) && (a != c) && (b != c))) w)
  generalize beaB n a = x1 at *
  generalize beaB n b = x2 at *
  generalize beaB n c = x3 at *
  have bw := Lib.hid (b1 w (.cells #[.int .i64 a, .int .i64 b, .int .i64 c] 36))
  have H : x1 = false ∨ (x1 = true ∧ x2 = false) ∨ (x1 = true ∧ x2 = true ∧ x3 = false) ∨ (x1 = true ∧ x2 = true ∧ x3 = true) := by cases x1 <;> cases x2 <;> cases x3 <;> simp
  rcases H with rfl | ⟨rfl, rfl⟩ | ⟨rfl, rfl, rfl⟩ | ⟨rfl, rfl, rfl⟩
  · go_enter Tryz.func39, Tryz.ntmps39
    go_wp2_with (go_at_call 36; (with_reducible refine (KA _).mono ?_); rintro e w1 ⟨rfl, rfl⟩)
    go_ret
    exact Ret.mk rfl bw.out
  · go_enter Tryz.func39, Tryz.ntmps39
    go_wp2_with (first
      | (go_at_call 36; (with_reducible refine (KA _).mono ?_); rintro e w1 ⟨rfl, rfl⟩)
      | (go_at_call 36; (with_reducible refine (KB _).mono ?_); rintro e w1 ⟨rfl, rfl⟩))
    go_ret
    exact Ret.mk rfl bw.out
  · go_enter Tryz.func39, Tryz.ntmps39
    go_wp2_with (first
      | (go_at_call 36; (with_reducible refine (KA _).mono ?_); rintro e w1 ⟨rfl, rfl⟩)
      | (go_at_call 36; (with_reducible refine (KB _).mono ?_); rintro e w1 ⟨rfl, rfl⟩)
      | (go_at_call 36; (with_reducible refine (KC _).mono ?_); rintro e w1 ⟨rfl, rfl⟩))
    go_ret
    exact Ret.mk rfl bw.out
  · have H2 : decide (a < b) = false ∨ (decide (a < b) = true ∧ (a != c) = false) ∨ (decide (a < b) = true ∧ (a != c) = true ∧ (b != c) = false) ∨ (decide (a < b) = true ∧ (a != c) = true ∧ (b != c) = true) := by
      cases decide (a < b) <;> cases (a != c) <;> cases (b != c) <;> simp
    rcases H2 with g1 | ⟨g1, g2⟩ | ⟨g1, g2, g3⟩ | ⟨g1, g2, g3⟩
    all_goals
      go_enter Tryz.func39, Tryz.ntmps39
      go_wp2_with (first
        | (go_at_call 36; (with_reducible refine (KA _).mono ?_); rintro e w1 ⟨rfl, rfl⟩)
        | (go_at_call 36; (with_reducible refine (KB _).mono ?_); rintro e w1 ⟨rfl, rfl⟩)
        | (go_at_call 36; (with_reducible refine (KC _).mono ?_); rintro e w1 ⟨rfl, rfl⟩))
      go_ret
      exact Ret.mk (by first | (rw [g1, g2, g3]; first | done | rfl) | (rw [g1, g2]; first | done | rfl) | (rw [g1]; first | done | rfl)) bw.out
/-- The errors of n and triples. -/
def memE (n : Int) (L : List T3) : Int := if numB n = false then 2 else if 60 < L.length then 3 else if L.all (isT n) then 0 else 2
theorem all_take_succ {p : T3 → Bool} {L : List T3} {k : Nat} (h : k < L.length) : (L.take (k + 1)).all p = ((L.take k).all p && p (tth L k)) := by
  rw [List.take_succ_eq_append_getElem h, List.all_append, tth_get h]; simp
theorem all_take_no {p : T3 → Bool} {L : List T3} {k : Nat} (h : k < L.length) (hp : p (tth L k) = false) : L.all p = false := by
  rw [Bool.eq_false_iff]
  intro hh
  have := List.all_eq_true.1 hh _ (tth_mem h)
  rw [hp] at this; cases this
/-- What memoriesOf returns. -/
def memV (n : Int) (a : Option Addr) (l c : Nat) (L : List T3) : Value := if memE n L = 0 then .tuple #[.slice a l c, .int .i64 0] else .tuple #[.slice none 0 0, .int .i64 (memE n L)]
set_option maxRecDepth 100000 in
set_option maxHeartbeats 1000000 in
theorem memoriesOf_any (n : Int) (a : Option Addr) (l c : Nat) (L : List T3) (w : World) (h : Trips w a L) (hl : L.length = l) (hl9 : l ≤ 1000) :
    Calls Tryz.prog 19 #[.int .i64 n, .slice a l c] w (Ret (memV n a l c L) w) := by
  have K := Lib.hid (fun W => isNumber_any n W)
  have hT := Lib.hid h
  have hn := Lib.hid hl
  unfold memV memE
  clear h hl
  cases h1 : numB n
  · rw [h1] at K
    simp only [if_true, Int.reduceEq, if_false]
    go_enter Tryz.func19, Tryz.ntmps19
    go_wp2_with (go_at_call 32; refine (K.out _).mono ?_; rintro e w1 ⟨rfl, rfl⟩)
    go_ret2
    exact Ret.mk rfl (Below.refl _ _)
  · rw [h1] at K
    rw [hn.out]
    replace h1 := Lib.hid h1
    by_cases h60 : 60 < l
    · simp only [if_pos h60, Bool.true_eq_false, if_false, Int.reduceEq]
      have i1 : (60 : Int) < (l : Int) := by omega
      go_enter Tryz.func19, Tryz.ntmps19
      go_wp2_with (go_at_call 32; refine (K.out _).mono ?_; rintro e w1 ⟨rfl, rfl⟩)
      go_ret2
      exact Ret.mk rfl (Below.refl _ _)
    · have i1 : (l : Int) ≤ 60 := by omega
      simp only [if_neg h60, Bool.true_eq_false, if_false]
      obtain ⟨r, hr⟩ : ∃ r, Hid (L.all (isT n) = r) := ⟨_, Lib.hid rfl⟩
      rw [hr.out]
      obtain ⟨V, hV⟩ : ∃ V, Hid ((if (if r = true then (0 : Int) else 2) = 0 then Value.tuple #[.slice a l c, .int .i64 0] else .tuple #[.slice none 0 0, .int .i64 (if r = true then (0 : Int) else 2)]) = V) := ⟨_, Lib.hid rfl⟩
      rw [hV.out]
      clear h60
      go_enter Tryz.func19, Tryz.ntmps19
      go_wp2_with (go_at_call 32; refine (K.out _).mono ?_; rintro e w1 ⟨rfl, rfl⟩)
      go_loopw [16] (fun i wr => ∃ k : Nat, k ≤ l ∧ i = .int .i64 k ∧ (L.take k).all (isT n) = true ∧ Below w.heap.size w wr) (fun i _ => l - (intOf i).toNat)
      case atStart => exact ⟨0, Nat.zero_le _, rfl, by simp, Below.refl _ _⟩
      case round =>
        obtain ⟨k, hk, rfl, hall, B0⟩ := hrel
        replace hall := Lib.hid hall
        by_cases hlt : k < l
        · obtain ⟨b, off, rfl, hc⟩ := trips_at (hT.out.next B0) (by rw [hn.out]; omega)
          obtain ⟨z0, z1, z2⟩ := hc k (by rw [hn.out]; exact hlt)
          clear hc
          have hki : (k : Int) < (l : Int) := by omega
          have E := Lib.hid (all_take_succ (p := isT n) (L := L) (k := k) (by rw [hn.out]; exact hlt))
          have N := Lib.hid (all_take_no (p := isT n) (L := L) (k := k) (by rw [hn.out]; exact hlt))
          have T := fun W => isTriple_any n (tth L k).1 (tth L k).2.1 (tth L k).2.2 W
          change ∀ W, Calls Tryz.prog 39 _ W (Ret (.bool (isT n (tth L k))) W) at T
          generalize isT n (tth L k) = r0 at *
          generalize (tth L k).1 = t0 at *
          generalize (tth L k).2.1 = t1 at *
          generalize (tth L k).2.2 = t2 at *
          replace T := Lib.hid T
          have bn := Lib.hid (nextB B0 (b1 wr (.cells #[.int .i64 t0, .int .i64 t1, .int .i64 t2] 36)))
          replace B0 := Lib.hid B0
          cases r0
          · go_wp2_with (go_at_call 39; refine (T.out _).mono ?_; rintro e w2 ⟨rfl, hb2⟩)
            go_ret2
            have hrf : r = false := by rw [← hr.out]; exact N.out trivial
            subst hrf
            exact Ret.mk (by rw [← hV.out]; rfl) (nextB bn.out hb2)
          · go_wp2_with (go_at_call 39; refine (T.out _).mono ?_; rintro e w2 ⟨rfl, hb2⟩)
            go_roundw
            case rel => exact ⟨k + 1, by omega, by go_num, by rw [E.out, hall.out]; rfl, nextB bn.out hb2⟩
            case measure => simp [intOf]; omega
        · obtain rfl : k = l := by omega
          have hrt : r = true := by
            rw [← hr.out, ← hall.out]
            congr 1
            rw [← hn.out, List.take_length]
          subst hrt
          go_wp2
          go_ret2
          exact Ret.mk (by rw [← hV.out]; rfl) B0
end Go.Proofs.YtfdaljekehkkaaaGreatDoor
