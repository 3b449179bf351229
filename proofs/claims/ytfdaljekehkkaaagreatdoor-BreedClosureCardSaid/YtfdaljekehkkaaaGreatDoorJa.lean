/- Layer 5, by the specification: which lists of triples are of n beasts. -/
import Derived.Test.YtfdaljekehkkaaaGreatDoorDb
namespace Go.Proofs.YtfdaljekehkkaaaGreatDoor
open Go Go.RowKit

def refT (n : Int) (a b c : Int) : Bool := decide (0 ≤ a) && decide (a < b) && decide (b < n) && decide (0 ≤ c) && decide (c < n) && (c != a) && (c != b)
theorem refT_eq (n a b c : Int) : refT n a b c = isT n (a, b, c) := by
  unfold refT isT beaB
  rw [Bool.eq_iff_iff]
  simp only [Bool.and_eq_true, decide_eq_true_eq, bne_iff_ne]
  omega
set_option maxRecDepth 100000 in
set_option maxHeartbeats 1000000 in
theorem refIsTriple_any (n a b c : Int) (w : World) : Calls Tryz.prog 27 #[.int .i64 n, .agg #[.int .i64 a, .int .i64 b, .int .i64 c]] w (Ret (.bool (isT n (a, b, c))) w) := by
  rw [← refT_eq]
  unfold refT
  have bw := Lib.hid (b1 w (.cells #[.int .i64 a, .int .i64 b, .int .i64 c] 36))
  have H : decide (0 ≤ a) = false ∨ (decide (0 ≤ a) = true ∧ decide (a < b) = false) ∨ (decide (0 ≤ a) = true ∧ decide (a < b) = true ∧ decide (b < n) = false) ∨ (decide (0 ≤ a) = true ∧ decide (a < b) = true ∧ decide (b < n) = true ∧ decide (0 ≤ c) = false) ∨
      (decide (0 ≤ a) = true ∧ decide (a < b) = true ∧ decide (b < n) = true ∧ decide (0 ≤ c) = true ∧ decide (c < n) = false) ∨ (decide (0 ≤ a) = true ∧ decide (a < b) = true ∧ decide (b < n) = true ∧ decide (0 ≤ c) = true ∧ decide (c < n) = true ∧ (c != a) = false) ∨
      (decide (0 ≤ a) = true ∧ decide (a < b) = true ∧ decide (b < n) = true ∧ decide (0 ≤ c) = true ∧ decide (c < n) = true ∧ (c != a) = true ∧ (c != b) = false) ∨ (decide (0 ≤ a) = true ∧ decide (a < b) = true ∧ decide (b < n) = true ∧ decide (0 ≤ c) = true ∧ decide (c < n) = true ∧ (c != a) = true ∧ (c != b) = true) := by
    cases decide (0 ≤ a) <;> cases decide (a < b) <;> cases decide (b < n) <;> cases decide (0 ≤ c) <;> cases decide (c < n) <;> cases (c != a) <;> cases (c != b) <;> simp
  rcases H with g1 | ⟨g1, g2⟩ | ⟨g1, g2, g3⟩ | ⟨g1, g2, g3, g4⟩ | ⟨g1, g2, g3, g4, g5⟩ | ⟨g1, g2, g3, g4, g5, g6⟩ | ⟨g1, g2, g3, g4, g5, g6, g7⟩ | ⟨g1, g2, g3, g4, g5, g6, g7⟩
  all_goals
    go_enter Tryz.func27, Tryz.ntmps27
    go_wp2
    go_ret
    exact Ret.mk (by first | (rw [g1, g2, g3, g4, g5, g6, g7]; first | done | rfl) | (rw [g1, g2, g3, g4, g5, g6]; first | done | rfl) | (rw [g1, g2, g3, g4, g5]; first | done | rfl) | (rw [g1, g2, g3, g4]; first | done | rfl) | (rw [g1, g2, g3]; first | done | rfl) | (rw [g1, g2]; first | done | rfl) | (rw [g1]; first | done | rfl)) bw.out
/-- The error of a list of triples. -/
def lisE (n : Int) (L : List T3) : Int := if 60 < L.length then 3 else if L.all (isT n) then 0 else 2
set_option maxRecDepth 100000 in
set_option maxHeartbeats 1000000 in
theorem refList_any (n : Int) (a : Option Addr) (l c : Nat) (L : List T3) (w : World) (h : Trips w a L) (hl : L.length = l) (hl9 : l ≤ 1000) :
    Calls Tryz.prog 10 #[.int .i64 n, .slice a l c] w (Ret (.int .i64 (lisE n L)) w) := by
  have hT := Lib.hid h
  have hn := Lib.hid hl
  unfold lisE
  rw [hl]
  clear h hl
  by_cases h60 : 60 < l
  · rw [if_pos h60]
    have i1 : (60 : Int) < (l : Int) := by omega
    go_enter Tryz.func10, Tryz.ntmps10
    go_wp2
    go_ret
    exact Ret.mk rfl (Below.refl _ _)
  · rw [if_neg h60]
    have i1 : (l : Int) ≤ 60 := by omega
    obtain ⟨r, hr⟩ : ∃ r, Hid (L.all (isT n) = r) := ⟨_, Lib.hid rfl⟩
    rw [hr.out]
    obtain ⟨V, hV⟩ : ∃ V, Hid ((if r = true then (0 : Int) else 2) = V) := ⟨_, Lib.hid rfl⟩
    rw [hV.out]
    clear h60
    go_enter Tryz.func10, Tryz.ntmps10
    go_wp2
    go_loopw [5] (fun i wr => ∃ k : Nat, k ≤ l ∧ i = .int .i64 k ∧ Hid ((L.take k).all (isT n) = true) ∧ Below w.heap.size w wr) (fun i _ => l - (intOf i).toNat)
    case atStart => exact ⟨0, Nat.zero_le _, rfl, Lib.hid (by simp), Below.refl _ _⟩
    case round =>
      obtain ⟨k, hk, rfl, hall, B0⟩ := hrel
      by_cases hlt : k < l
      · obtain ⟨b, off, rfl, hc⟩ := trips_at (hT.out.next B0) (by rw [hn.out]; omega)
        obtain ⟨z0, z1, z2⟩ := hc k (by rw [hn.out]; exact hlt)
        clear hc
        have hki : (k : Int) < (l : Int) := by omega
        have E := Lib.hid (all_take_succ (p := isT n) (L := L) (k := k) (by rw [hn.out]; exact hlt))
        have N := Lib.hid (all_take_no (p := isT n) (L := L) (k := k) (by rw [hn.out]; exact hlt))
        have T := fun W => refIsTriple_any n (tth L k).1 (tth L k).2.1 (tth L k).2.2 W
        change ∀ W, Calls Tryz.prog 27 _ W (Ret (.bool (isT n (tth L k))) W) at T
        generalize isT n (tth L k) = r0 at *
        generalize (tth L k).1 = t0 at *
        generalize (tth L k).2.1 = t1 at *
        generalize (tth L k).2.2 = t2 at *
        replace T := Lib.hid T
        cases r0
        · go_wp2_with (go_at_call 27; refine (T.out _).mono ?_; rintro e w2 ⟨rfl, hb2⟩)
          go_ret
          have hrf : r = false := by rw [← hr.out]; exact N.out trivial
          subst hrf
          exact Ret.mk (by rw [← hV.out]; rfl) (nextB B0 hb2)
        · go_wp2_with (go_at_call 27; refine (T.out _).mono ?_; rintro e w2 ⟨rfl, hb2⟩)
          go_roundw
          case rel => exact ⟨k + 1, by omega, by go_num, Lib.hid (by rw [E.out, hall.out]; rfl), nextB B0 hb2⟩
          case measure => simp [intOf]; omega
      · obtain rfl : k = l := by omega
        have hrt : r = true := by
          rw [← hr.out, ← hall.out]
          congr 1
          rw [← hn.out, List.take_length]
        subst hrt
        go_wp2
        go_ret
        exact Ret.mk (by rw [← hV.out]; rfl) B0
theorem memE_lis (n : Int) (L : List T3) : memE n L = if numB n then lisE n L else 2 := by
  unfold memE lisE
  cases numB n <;> simp
end Go.Proofs.YtfdaljekehkkaaaGreatDoor
