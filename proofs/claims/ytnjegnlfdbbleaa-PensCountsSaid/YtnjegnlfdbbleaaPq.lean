/- Layer 1: the specification's Count looks at all points one by one. -/
import Derived.Test.YtnjegnlfdbbleaaPp
import Derived.Test.YtnjegnlfdbbleaaPk
namespace Go.Proofs.Ytnjegnlfdbbleaa
open Go Go.RowKit Go.Shelf

theorem place_ins {n : Nat} {p : Nat → Int × Int} (h : Simp n p) (q : Int × Int) : (placeI n p q = 1 ∧ insI n p q = 1) ∨ (placeI n p q ≠ 1 ∧ insI n p q = 0) := by
  by_cases ho : ∃ i, i < n ∧ OnP (p i) (p ((i + 1) % n)) q
  · have e1 : placeI n p q = 0 := if_pos ho
    have e2 : insI n p q = 0 := if_neg (fun k => by obtain ⟨i, hi, hn⟩ := ho; exact k.1 i hi hn)
    rw [e1, e2]
    exact .inr ⟨by omega, rfl⟩
  · have hoff : OffP n p q := fun i hi hn => ho ⟨i, hi, hn⟩
    have e1 : placeI n p q = if cP n p q % 2 = 0 then -1 else 1 := if_neg ho
    have j := h.jordan hoff
    have k := h.kap_or
    by_cases hc : cP n p q = 0
    · have e2 : insI n p q = 0 := if_neg (fun k => k.2 hc)
      rw [e1, e2, if_pos (by omega)]
      exact .inr ⟨by omega, rfl⟩
    · have e2 : insI n p q = 1 := if_pos ⟨hoff, hc⟩
      rw [e1, e2, if_neg (by omega)]
      exact .inl ⟨rfl, rfl⟩
/-- How many points of column i are inside. -/
def colI (n : Nat) (p : Nat → Int × Int) (i j : Nat) : Int := sumI (fun j => insI n p ((i : Int) - 50, (j : Int) - 50)) j
theorem colI_succ (n : Nat) (p : Nat → Int × Int) (i j : Nat) : colI n p i (j + 1) = colI n p i j + insI n p ((i : Int) - 50, (j : Int) - 50) := rfl
def colsI (n : Nat) (p : Nat → Int × Int) (i : Nat) : Int := sumI (fun i => colI n p i 101) i
theorem cols_all (n : Nat) (p : Nat → Int × Int) : colsI n p 101 = boxS 50 (insI n p) := rfl
theorem colI_bd (n : Nat) (p : Nat → Int × Int) (i j : Nat) : 0 ≤ colI n p i j ∧ colI n p i j ≤ j := by
  have := sumI_bd (fun j => insI n p ((i : Int) - 50, (j : Int) - 50)) 0 1 j (fun k _ => by have := insI_or n p ((i : Int) - 50, (k : Int) - 50); omega)
  unfold colI
  omega
theorem colsI_bd (n : Nat) (p : Nat → Int × Int) (i : Nat) : 0 ≤ colsI n p i ∧ colsI n p i ≤ 101 * i := by
  have := sumI_bd (fun i => colI n p i 101) 0 101 i (fun k _ => by have := colI_bd n p k 101; omega)
  unfold colsI
  omega

set_option maxHeartbeats 800000 in
theorem refCount_no (a : Option Addr) (n c : Nat) (p : Nat → Int × Int) (w : World) (hm : n ≤ 4611686018427387904) (h : Pts w a n p) (hn : ¬ PenP n p) :
    Calls Try.prog 22 #[.slice a n c] w (Ret (.tuple #[.int .i64 0, .int .i64 0, .int .i64 2]) w) := by
  have H := isPen_any a n c p w hm h
  rw [decide_eq_false hn] at H
  replace H := Lib.hid H
  clear h hn
  go_enter Try.func22, Try.ntmps22
  go_wp2_with (go_at_call 15; refine H.out.mono ?_; rintro e w1 ⟨rfl, hb1⟩)
  go_ret3
  exact Ret.mk rfl hb1

set_option maxRecDepth 100000 in
set_option maxHeartbeats 4000000 in
theorem refCount_yes (a : Option Addr) (n c : Nat) (p : Nat → Int × Int) (w : World) (hm : n ≤ 4611686018427387904) (h : Pts w a n p) (hn : PenP n p) :
    Calls Try.prog 22 #[.slice a n c] w (Ret (.tuple #[.int .i64 (borderI n p), .int .i64 (boxS 50 (insI n p)), .int .i64 0]) w) := by
  have H := isPen_any a n c p w hm h
  rw [decide_eq_true hn] at H
  replace H := Lib.hid H
  have n1 : 1 ≤ n := by have := hn.1; omega
  have n10 := hn.2.1
  obtain ⟨b, off, rfl, hc⟩ := ptsOf h (by omega)
  have HB : Hid (∀ w1, Below w.heap.size w w1 → Calls Try.prog 45 #[.slice (some ⟨b, off, none⟩) n c] w1 (Ret (.int .i64 (borderI n p)) w1)) := Lib.hid (fun w1 hb => refBorder_any b off n c p w1 n1 n10 hn.sm (pts_next hb hc))
  have HP : Hid (∀ s0 s1 : Int, -50 ≤ s0 → s0 ≤ 50 → -50 ≤ s1 → s1 ≤ 50 → ∀ w1, Below w.heap.size w w1 → Calls Try.prog 44 #[.slice (some ⟨b, off, none⟩) n c, .agg #[.int .i64 s0, .int .i64 s1]] w1 (Ret (.int .i64 (placeI n p (s0, s1))) w1)) :=
    Lib.hid (fun s0 s1 a1 a2 a3 a4 w1 hb => place_any b off n c p s0 s1 w1 n1 n10 (fun i hi => (hn.sm i hi).mono (by omega)) (by unfold Sm; simp only; omega) (pts_next hb hc))
  have hI := Lib.hid (fun q => place_ins hn.simp q)
  have hcols := Lib.hid (cols_all n p)
  clear h hc hn
  generalize boxS 50 (insI n p) = I at *
  go_enter Try.func22, Try.ntmps22
  go_wp2_with fail
  refine H.out.mono ?_
  rintro e w1 ⟨rfl, hb1⟩
  dsimp only
  clear H
  go_wp2
  go_loopw [5, 6, 7] (fun s x y wr => ∃ X : Int, -50 ≤ X ∧ X ≤ 51 ∧ x = .int .i64 X ∧ s = .int .i64 (colsI n p (X + 50).toNat) ∧ Below w.heap.size w wr) (fun _ x _ _ => (51 - intOf x).toNat)
  case atStart => exact ⟨-50, by omega, by omega, rfl, rfl, hb1⟩
  case round =>
    clear hb1
    obtain ⟨X, hX0, hX1, rfl, rfl, B0⟩ := hrel
    have hbd := colsI_bd n p (X + 50).toNat
    by_cases hlt : X ≤ 50
    · have hnew : Hid (colsI n p (X + 1 + 50).toNat = colsI n p (X + 50).toNat + colI n p (X + 50).toNat 101) := Lib.hid (by
        rw [show (X + 1 + 50).toNat = (X + 50).toNat + 1 by omega]; rfl)
      have hbs : 0 ≤ colsI n p (X + 50).toNat ∧ colsI n p (X + 50).toNat ≤ 10201 := by omega
      generalize colsI n p (X + 50).toNat = S at *
      go_wp2
      go_loopw [5, 7] (fun s y wi => ∃ Y : Int, -50 ≤ Y ∧ Y ≤ 51 ∧ y = .int .i64 Y ∧ s = .int .i64 (S + colI n p (X + 50).toNat (Y + 50).toNat) ∧ Below w.heap.size w wi) (fun _ y _ => (51 - intOf y).toNat)
      case atStart => exact ⟨-50, by omega, by omega, rfl, by rw [show ((-50 : Int) + 50).toNat = 0 by rfl]; simp [colI, sumI], B0⟩
      case round =>
        clear B0
        obtain ⟨Y, hY0, hY1, rfl, rfl, B0⟩ := hrel
        have hbc := colI_bd n p (X + 50).toNat (Y + 50).toNat
        by_cases hly : Y ≤ 50
        · have hins := hI.out (X, Y)
          have hnew2 : Hid (colI n p (X + 50).toNat (Y + 1 + 50).toNat = colI n p (X + 50).toNat (Y + 50).toNat + insI n p (X, Y)) := Lib.hid (by
            rw [show (Y + 1 + 50).toNat = (Y + 50).toNat + 1 by omega, colI_succ, show (((X + 50).toNat : Nat) : Int) - 50 = X by omega, show (((Y + 50).toNat : Nat) : Int) - 50 = Y by omega])
          have hbc2 : 0 ≤ colI n p (X + 50).toNat (Y + 50).toNat ∧ colI n p (X + 50).toNat (Y + 50).toNat ≤ 101 := by omega
          have HPx := HP.out X Y (by omega) (by omega) (by omega) (by omega)
          replace HPx := Lib.hid HPx
          generalize colI n p (X + 50).toNat (Y + 50).toNat = T at *
          generalize placeI n p (X, Y) = V at *
          rcases hins with ⟨hv, hi⟩ | ⟨hv, hi⟩
          · subst hv
            replace hi := Lib.hid hi
            go_wp2_with (go_at_call 44; refine (HPx.out _ B0).mono ?_; rintro e w2 ⟨rfl, hb2⟩; replace B0 := nextB B0 hb2; clear hb2)
            go_roundw
            case rel => exact ⟨Y + 1, by omega, by omega, rfl, by rw [hnew2.out, hi.out, Int.add_assoc], B0⟩
            case measure => simp [intOf]; omega
          · replace hi := Lib.hid hi
            have hv' : (V == 1) = false := by rw [beq_eq_false_iff_ne]; exact hv
            replace hv := Lib.hid hv
            go_wp2_with (go_at_call 44; refine (HPx.out _ B0).mono ?_; rintro e w2 ⟨rfl, hb2⟩; replace B0 := nextB B0 hb2; clear hb2)
            go_roundw
            case rel => exact ⟨Y + 1, by omega, by omega, rfl, by rw [hnew2.out, hi.out, Int.add_zero], B0⟩
            case measure => simp [intOf]; omega
        · obtain rfl : Y = 51 := by omega
          go_wp2
          go_roundw
          case rel => exact ⟨X + 1, by omega, by omega, rfl, by rw [hnew.out]; rfl, B0⟩
          case measure => simp [intOf]; omega
    · obtain rfl : X = 51 := by omega
      have hfin : Hid (colsI n p ((51 : Int) + 50).toNat = I) := hcols
      generalize colsI n p ((51 : Int) + 50).toNat = S at *
      go_wp2_with (go_at_call 45; refine (HB.out _ B0).mono ?_; rintro e w2 ⟨rfl, hb2⟩; replace B0 := nextB B0 hb2; clear hb2)
      go_ret3
      refine Ret.mk ?_ B0
      rw [hfin.out]
      rfl
end Go.Proofs.Ytnjegnlfdbbleaa
