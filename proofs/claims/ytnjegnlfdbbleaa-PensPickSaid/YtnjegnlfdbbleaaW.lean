/- Layer 1: the area, how a pen grows, and the calls that tell of them. -/
import Derived.Test.YtnjegnlfdbbleaaV
namespace Go.Proofs.Ytnjegnlfdbbleaa
open Go Go.RowKit

theorem sumI_bd (f : Nat → Int) (A B : Int) (n : Nat) (h : ∀ i, i < n → A ≤ f i ∧ f i ≤ B) : A * n ≤ sumI f n ∧ sumI f n ≤ B * n := by
  induction n with
  | zero => simp [sumI]
  | succ n ih =>
    have h1 := ih (fun i hi => h i (by omega))
    have h2 := h n (by omega)
    simp only [sumI, Int.natCast_add, Int.natCast_one, Int.mul_add, Int.mul_one]
    omega
theorem signedI_bd {n : Nat} {p : Nat → Int × Int} (h10 : n ≤ 10) (hs : ∀ i, i < n → Sm 50 (p i)) : -50000 ≤ signedI n p ∧ signedI n p ≤ 50000 := by
  have := sumI_bd (fun i => crossO (sideAt n p i)) (-5000) 5000 n (fun i hi => crossO_bd (hs i hi) (hs _ (Nat.mod_lt _ (by omega))))
  unfold signedI
  omega
theorem borderI_bd {n : Nat} {p : Nat → Int × Int} (h10 : n ≤ 10) (hs : ∀ i, i < n → Sm 50 (p i)) : 0 ≤ borderI n p ∧ borderI n p ≤ 1000 := by
  have := sumI_bd (fun i => stepsO (sideAt n p i)) 0 100 n (fun i hi => stepsO_bd (hs i hi) (hs _ (Nat.mod_lt _ (by omega))))
  unfold borderI
  omega
/-- Twice the area. -/
def areaI (n : Nat) (p : Nat → Int × Int) : Int := ((signedI n p).natAbs : Int)
/-- (A t t + B t + 2) / 2, towards 0. -/
def grownI (A B t : Int) : Int := (A * t * t + B * t + 2).tdiv 2

set_option maxHeartbeats 800000 in
theorem area_any (b off n c : Nat) (p : Nat → Int × Int) (w : World) (h1 : 1 ≤ n) (h10 : n ≤ 10) (hs : ∀ i, i < n → Sm 50 (p i))
    (hc : ∀ i, i < n → w.cell? ⟨b, off + i * 2, none⟩ = some (.int .i64 (p i).1) ∧ w.cell? ⟨b, off + i * 2 + 1, none⟩ = some (.int .i64 (p i).2)) :
    Calls Try.prog 38 #[.slice (some ⟨b, off, none⟩) n c] w (Ret (.int .i64 (areaI n p)) w) := by
  obtain ⟨q1, q2⟩ := signedI_bd h10 hs
  have H := Lib.hid (signed_any b off n c p w h1 h10 hs hc)
  clear hs hc
  go_enter Try.func38, Try.ntmps38
  go_wp2_with (go_at_call 60; refine H.out.mono ?_; rintro e w1 ⟨rfl, hb1⟩)
  all_goals
    go_ret
    refine Ret.mk ?_ hb1
    unfold areaI
    first | exact congrArg (Value.int .i64) (show signedI n p = _ by omega) | exact congrArg (Value.int .i64) (show -signedI n p = _ by omega)

theorem pts_next {w w' : World} {b off n : Nat} {p : Nat → Int × Int} (hb : Below w.heap.size w w')
    (hc : ∀ i, i < n → w.cell? ⟨b, off + i * 2, none⟩ = some (.int .i64 (p i).1) ∧ w.cell? ⟨b, off + i * 2 + 1, none⟩ = some (.int .i64 (p i).2)) :
    ∀ i, i < n → w'.cell? ⟨b, off + i * 2, none⟩ = some (.int .i64 (p i).1) ∧ w'.cell? ⟨b, off + i * 2 + 1, none⟩ = some (.int .i64 (p i).2) := fun i hi => ⟨cellB hb (hc i hi).1, cellB hb (hc i hi).2⟩

set_option maxHeartbeats 800000 in
theorem grown_any (b off n c : Nat) (p : Nat → Int × Int) (t : Int) (w : World) (h1 : 1 ≤ n) (h10 : n ≤ 10) (hs : ∀ i, i < n → Sm 50 (p i)) (ht : -1000 ≤ t) (ht' : t ≤ 1000)
    (hc : ∀ i, i < n → w.cell? ⟨b, off + i * 2, none⟩ = some (.int .i64 (p i).1) ∧ w.cell? ⟨b, off + i * 2 + 1, none⟩ = some (.int .i64 (p i).2)) :
    Calls Try.prog 49 #[.slice (some ⟨b, off, none⟩) n c, .int .i64 t] w (Ret (.int .i64 (grownI (areaI n p) (borderI n p) t)) w) := by
  obtain ⟨q1, q2⟩ := signedI_bd h10 hs
  obtain ⟨q3, q4⟩ := borderI_bd h10 hs
  have a1 : 0 ≤ areaI n p := by unfold areaI; omega
  have a2 : areaI n p ≤ 50000 := by unfold areaI; omega
  obtain ⟨m1, m2⟩ := mul_bd (x := areaI n p) (y := t) (X := 50000) (Y := 1000) (by omega) (by omega) (by omega) (by omega)
  obtain ⟨m3, m4⟩ := mul_bd (x := areaI n p * t) (y := t) (X := 50000000) (Y := 1000) (by omega) (by omega) (by omega) (by omega)
  obtain ⟨m5, m6⟩ := mul_bd (x := borderI n p) (y := t) (X := 1000) (Y := 1000) (by omega) (by omega) (by omega) (by omega)
  have H := Lib.hid (area_any b off n c p w h1 h10 hs hc)
  have H2 : Hid (∀ w1, Below w.heap.size w w1 → Calls Try.prog 42 #[.slice (some ⟨b, off, none⟩) n c] w1 (Ret (.int .i64 (borderI n p)) w1)) := fun w1 hb => border_any b off n c p w1 h1 h10 hs (pts_next hb hc)
  clear hs hc q1 q2
  go_enter Try.func49, Try.ntmps49
  go_wp2_with (first | (go_at_call 38; refine H.out.mono ?_; rintro e w1 ⟨rfl, hb1⟩) | (go_at_call 42; refine (H2.out _ hb1).mono ?_; rintro e w2 ⟨rfl, hb2⟩))
  go_ret
  exact Ret.mk rfl (nextB hb1 hb2)

theorem inside_any (b off n c : Nat) (p : Nat → Int × Int) (w : World) (h1 : 1 ≤ n) (h10 : n ≤ 10) (hs : ∀ i, i < n → Sm 50 (p i))
    (hc : ∀ i, i < n → w.cell? ⟨b, off + i * 2, none⟩ = some (.int .i64 (p i).1) ∧ w.cell? ⟨b, off + i * 2 + 1, none⟩ = some (.int .i64 (p i).2)) :
    Calls Try.prog 43 #[.slice (some ⟨b, off, none⟩) n c] w (Ret (.int .i64 (grownI (areaI n p) (borderI n p) (-1))) w) := by
  have H := Lib.hid (grown_any b off n c p (-1) w h1 h10 hs (by omega) (by omega) hc)
  clear hs hc
  go_enter Try.func43, Try.ntmps43
  go_wp2_with (go_at_call 49; refine H.out.mono ?_; rintro e w1 ⟨rfl, hb1⟩)
  go_ret
  exact Ret.mk rfl hb1

/-- penOf, by the one test. -/
theorem penOf_any (a : Option Addr) (n c : Nat) (p : Nat → Int × Int) (w : World) (hm : n ≤ 4611686018427387904) (h : Pts w a n p) :
    Calls Try.prog 35 #[.slice a n c] w (PenOf n p (PenP n p) w) := by
  have := penOf_any0 a n c p w hm h
  rw [propext (pen_iff n p)] at this
  exact this
theorem PenP.sm {n : Nat} {p : Nat → Int × Int} (h : PenP n p) : ∀ i, i < n → Sm 50 (p i) := fun i hi => (h.2.2.1 i hi).1

theorem IsPen_any (a : Option Addr) (n c : Nat) (p : Nat → Int × Int) (w : World) (hm : n ≤ 4611686018427387904) (h : Pts w a n p) :
    Calls Try.prog 14 #[.slice a n c] w (Ret (.bool (decide (PenP n p))) w) := by
  have H := Lib.hid (penOf_any a n c p w hm h)
  clear h
  go_enter Try.func14, Try.ntmps14
  go_wp2_with fail
  refine H.out.mono ?_
  rintro e w1 ⟨hb1, (⟨hp, g, c', rfl, hc'⟩ | ⟨hp, a', m', c', rfl⟩)⟩
  · have hp := Lib.hid hp
    clear hc'
    dsimp only
    go_wp2
    go_ret
    exact Ret.mk (ret_dec (by simp only [true_iff]; exact hp.out)) hb1
  · have hp := Lib.hid hp
    dsimp only
    go_wp2
    go_ret
    exact Ret.mk (ret_dec (by simp only [Bool.false_eq_true, false_iff]; exact hp.out)) hb1

theorem Area_no (a : Option Addr) (n c : Nat) (p : Nat → Int × Int) (w : World) (hm : n ≤ 4611686018427387904) (h : Pts w a n p) (hn : ¬ PenP n p) :
    Calls Try.prog 16 #[.slice a n c] w (Ret (.tuple #[.int .i64 0, .int .i64 2]) w) := by
  have H := Lib.hid (penOf_any a n c p w hm h)
  have hn := Lib.hid hn
  clear h
  go_enter Try.func16, Try.ntmps16
  go_wp2_with fail
  refine H.out.mono ?_
  rintro e w1 ⟨hb1, (⟨hp, g, c', rfl, hc'⟩ | ⟨hp, a', m', c', rfl⟩)⟩
  · exact absurd hp hn.out
  · clear hp
    dsimp only
    go_wp2
    go_ret2
    exact Ret.mk rfl hb1

set_option maxHeartbeats 800000 in
theorem Area_yes (a : Option Addr) (n c : Nat) (p : Nat → Int × Int) (w : World) (hm : n ≤ 4611686018427387904) (h : Pts w a n p) (hn : PenP n p) :
    Calls Try.prog 16 #[.slice a n c] w (Ret (.tuple #[.int .i64 (areaI n p), .int .i64 0]) w) := by
  have H := Lib.hid (penOf_any a n c p w hm h)
  have hn := Lib.hid hn
  clear h
  go_enter Try.func16, Try.ntmps16
  go_wp2_with fail
  refine H.out.mono ?_
  rintro e w1 ⟨hb1, (⟨hp, g, c', rfl, hc'⟩ | ⟨hp, a', m', c', rfl⟩)⟩
  · clear hp
    have HA := Lib.hid (area_any g 0 n c' p w1 (by have := hn.out.1; omega) hn.out.2.1 hn.out.sm hc')
    clear hc'
    dsimp only
    go_wp2_with (go_at_call 38; refine HA.out.mono ?_; rintro e w2 ⟨rfl, hb2⟩)
    go_ret2
    exact Ret.mk rfl (nextB hb1 hb2)
  · exact absurd hn.out hp

theorem Count_no (a : Option Addr) (n c : Nat) (p : Nat → Int × Int) (w : World) (hm : n ≤ 4611686018427387904) (h : Pts w a n p) (hn : ¬ PenP n p) :
    Calls Try.prog 21 #[.slice a n c] w (Ret (.tuple #[.int .i64 0, .int .i64 0, .int .i64 2]) w) := by
  have H := Lib.hid (penOf_any a n c p w hm h)
  have hn := Lib.hid hn
  clear h
  go_enter Try.func21, Try.ntmps21
  go_wp2_with fail
  refine H.out.mono ?_
  rintro e w1 ⟨hb1, (⟨hp, g, c', rfl, hc'⟩ | ⟨hp, a', m', c', rfl⟩)⟩
  · exact absurd hp hn.out
  · clear hp
    dsimp only
    go_wp2
    go_ret3
    exact Ret.mk rfl hb1

set_option maxHeartbeats 800000 in
theorem Count_yes (a : Option Addr) (n c : Nat) (p : Nat → Int × Int) (w : World) (hm : n ≤ 4611686018427387904) (h : Pts w a n p) (hn : PenP n p) :
    Calls Try.prog 21 #[.slice a n c] w (Ret (.tuple #[.int .i64 (borderI n p), .int .i64 (grownI (areaI n p) (borderI n p) (-1)), .int .i64 0]) w) := by
  have H := Lib.hid (penOf_any a n c p w hm h)
  have hn := Lib.hid hn
  clear h
  go_enter Try.func21, Try.ntmps21
  go_wp2_with fail
  refine H.out.mono ?_
  rintro e w1 ⟨hb1, (⟨hp, g, c', rfl, hc'⟩ | ⟨hp, a', m', c', rfl⟩)⟩
  · clear hp
    have HA := Lib.hid (border_any g 0 n c' p w1 (by have := hn.out.1; omega) hn.out.2.1 hn.out.sm hc')
    have HB : Hid (∀ w2, Below w1.heap.size w1 w2 → _) := fun w2 hb => inside_any g 0 n c' p w2 (by have := hn.out.1; omega) hn.out.2.1 hn.out.sm (pts_next hb hc')
    clear hc'
    dsimp only
    go_wp2_with (first | (go_at_call 42; refine HA.out.mono ?_; rintro e w2 ⟨rfl, hb2⟩) | (go_at_call 43; refine (HB.out _ hb2).mono ?_; rintro e w3 ⟨rfl, hb3⟩))
    go_ret3
    exact Ret.mk rfl (nextB hb1 (nextB hb2 hb3))
  · exact absurd hn.out hp

/-- Are the numbers of Grown asked for? -/
def GrowP (n : Nat) (p : Nat → Int × Int) (t : Int) : Prop := PenP n p ∧ 1 ≤ t ∧ t ≤ 1000
set_option maxHeartbeats 800000 in
theorem Grown_no (a : Option Addr) (n c : Nat) (p : Nat → Int × Int) (t : Int) (w : World) (hm : n ≤ 4611686018427387904) (h : Pts w a n p) (hn : ¬ GrowP n p t) :
    Calls Try.prog 25 #[.slice a n c, .int .i64 t] w (Ret (.tuple #[.int .i64 0, .int .i64 0, .int .i64 2]) w) := by
  have H := Lib.hid (penOf_any a n c p w hm h)
  have hn := Lib.hid hn
  clear h
  go_enter Try.func25, Try.ntmps25
  go_wp2_with fail
  refine H.out.mono ?_
  rintro e w1 ⟨hb1, (⟨hp, g, c', rfl, hc'⟩ | ⟨hp, a', m', c', rfl⟩)⟩
  · clear hc'
    have hp := Lib.hid hp
    have ht : t < 1 ∨ 1000 < t := by
      by_cases h1 : t < 1
      · exact .inl h1
      · by_cases h2 : 1000 < t
        · exact .inr h2
        · exact absurd ⟨hp.out, by omega, by omega⟩ hn.out
    dsimp only
    rcases ht with ht | ht
    all_goals
      go_wp2
      go_ret3
      exact Ret.mk rfl hb1
  · clear hp
    dsimp only
    go_wp2
    go_ret3
    exact Ret.mk rfl hb1

set_option maxHeartbeats 1600000 in
theorem Grown_yes (a : Option Addr) (n c : Nat) (p : Nat → Int × Int) (t : Int) (w : World) (hm : n ≤ 4611686018427387904) (h : Pts w a n p) (hn : PenP n p) (ht : 1 ≤ t) (ht' : t ≤ 1000) :
    Calls Try.prog 25 #[.slice a n c, .int .i64 t] w (Ret (.tuple #[.int .i64 (grownI (areaI n p) (borderI n p) t), .int .i64 (grownI (areaI n p) (borderI n p) (-t)), .int .i64 0]) w) := by
  have H := Lib.hid (penOf_any a n c p w hm h)
  have hn := Lib.hid hn
  clear h
  go_enter Try.func25, Try.ntmps25
  go_wp2_with fail
  refine H.out.mono ?_
  rintro e w1 ⟨hb1, (⟨hp, g, c', rfl, hc'⟩ | ⟨hp, a', m', c', rfl⟩)⟩
  · clear hp
    have HA := Lib.hid (grown_any g 0 n c' p t w1 (by have := hn.out.1; omega) hn.out.2.1 hn.out.sm (by omega) (by omega) hc')
    have HB : Hid (∀ w2, Below w1.heap.size w1 w2 → _) := fun w2 hb => grown_any g 0 n c' p (-t) w2 (by have := hn.out.1; omega) hn.out.2.1 hn.out.sm (by omega) (by omega) (pts_next hb hc')
    clear hc'
    dsimp only
    go_wp2_with (first | (go_at_call 49; ((with_reducible refine HA.out.mono ?_); rintro e w2 ⟨rfl, hb2⟩)) | (go_at_call 49; ((with_reducible refine (HB.out _ hb2).mono ?_); rintro e w3 ⟨rfl, hb3⟩)))
    go_ret3
    exact Ret.mk rfl (nextB hb1 (nextB hb2 hb3))
  · exact absurd hn.out hp
end Go.Proofs.Ytnjegnlfdbbleaa
