/- Layer 1: triangles. -/
import Derived.Test.YtnjegnlfdbbleaaO
namespace Go.Proofs.Ytnjegnlfdbbleaa
open Go Go.RowKit Go.Shelf

abbrev encP (a : Int × Int) : Value := .agg #[.int .i64 a.1, .int .i64 a.2]
abbrev encT (a b c : Int × Int) : Value := .agg #[.int .i64 a.1, .int .i64 a.2, .int .i64 b.1, .int .i64 b.2, .int .i64 c.1, .int .i64 c.2]
/-- Block B holds three points. -/
def Box6 (w : World) (B : Nat) (a b c : Int × Int) : Prop :=
  (w.cell? ⟨B, 0, none⟩ = some (.int .i64 a.1) ∧ w.cell? ⟨B, 1, none⟩ = some (.int .i64 a.2)) ∧ (w.cell? ⟨B, 2, none⟩ = some (.int .i64 b.1) ∧ w.cell? ⟨B, 3, none⟩ = some (.int .i64 b.2)) ∧ (w.cell? ⟨B, 4, none⟩ = some (.int .i64 c.1) ∧ w.cell? ⟨B, 5, none⟩ = some (.int .i64 c.2))
theorem Box6.next {b c : World} {k : Nat} {x y z : Int × Int} (h : Box6 b k x y z) (hb : Below b.heap.size b c) : Box6 c k x y z :=
  ⟨⟨cellB hb h.1.1, cellB hb h.1.2⟩, ⟨cellB hb h.2.1.1, cellB hb h.2.1.2⟩, ⟨cellB hb h.2.2.1, cellB hb h.2.2.2⟩⟩

set_option maxHeartbeats 800000 in
theorem tarea_any (a b c : Int × Int) (w : World) (ha : Sm 1048576 a) (hb : Sm 1048576 b) (hc : Sm 1048576 c) :
    Calls Try.prog 73 #[encT a b c] w (Ret (.int .i64 (crossI a b c)) w) := by
  go_enter Try.func73, Try.ntmps73
  go_wp2_with (go_at_call 52; refine (turn_any _ _ _ _ _ _ _ ha hb hc).mono ?_; rintro e w1 ⟨rfl, hb1⟩)
  go_ret
  exact Ret.mk rfl (nextB (b1 _ _) hb1)

def HasP (a b c s : Int × Int) : Prop := 0 ≤ crossI a b s ∧ 0 ≤ crossI b c s ∧ 0 ≤ crossI c a s
instance (a b c s) : Decidable (HasP a b c s) := by unfold HasP; infer_instance
set_option maxHeartbeats 1600000 in
theorem has_any (a b c s : Int × Int) (w : World) (ha : Sm 1048576 a) (hb : Sm 1048576 b) (hc : Sm 1048576 c) (hs : Sm 1048576 s) :
    Calls Try.prog 80 #[encT a b c, encP s] w (Ret (.bool (decide (HasP a b c s))) w) := by
  obtain ⟨a0, a1⟩ := a
  obtain ⟨b0, b1⟩ := b
  obtain ⟨c0, c1⟩ := c
  obtain ⟨s0, s1⟩ := s
  dsimp only [encT, encP]
  go_enter Try.func80, Try.ntmps80
  go_wp2_with fail
  refine calls_at (F := fun W => Below w.heap.size w W ∧ Box6 W w.heap.size (a0, a1) (b0, b1) (c0, c1) ∧ Box2 W (w.heap.size + 1) s0 s1) ⟨b2 _ _ _, ⟨⟨by go_simp, by go_simp⟩, ⟨by go_simp, by go_simp⟩, ⟨by go_simp, by go_simp⟩⟩, ⟨by go_simp, by go_simp⟩⟩ ?_
  rintro W ⟨B0, T, P⟩
  refine (turn_any _ _ _ _ _ _ _ ha hb hs).mono ?_
  rintro e w1 ⟨rfl, hb1⟩
  dsimp only
  replace B0 := nextB B0 hb1
  replace T := T.next hb1
  replace P := P.next hb1
  clear hb1
  obtain ⟨⟨t0, t1⟩, ⟨t2, t3⟩, ⟨t4, t5⟩⟩ := id T
  obtain ⟨p0, p1⟩ := id P
  by_cases g1 : 0 ≤ crossI (a0, a1) (b0, b1) (s0, s1)
  · go_wp2_with fail
    refine (turn_any _ _ _ _ _ _ _ hb hc hs).mono ?_
    rintro e w2 ⟨rfl, hb2⟩
    dsimp only
    replace B0 := nextB B0 hb2
    replace T := T.next hb2
    replace P := P.next hb2
    clear hb2 t0 t1 t2 t3 t4 t5 p0 p1
    obtain ⟨⟨t0, t1⟩, ⟨t2, t3⟩, ⟨t4, t5⟩⟩ := id T
    obtain ⟨p0, p1⟩ := id P
    by_cases g2 : 0 ≤ crossI (b0, b1) (c0, c1) (s0, s1)
    · go_wp2_with fail
      refine (turn_any _ _ _ _ _ _ _ hc ha hs).mono ?_
      rintro e w3 ⟨rfl, hb3⟩
      dsimp only
      replace B0 := nextB B0 hb3
      clear hb3 t0 t1 t2 t3 t4 t5 p0 p1
      go_wp2
      go_ret
      refine Ret.mk (ret_dec ?_) B0
      simp [HasP, g1, g2]
    · go_wp2
      go_ret
      refine Ret.mk (ret_dec ?_) B0
      simp only [Bool.false_eq_true, false_iff, HasP]
      omega
  · go_wp2
    go_ret
    refine Ret.mk (ret_dec ?_) B0
    simp only [Bool.false_eq_true, false_iff, HasP]
    omega

/-- A spot that the triangle has besides its corners. -/
def OtherP (a b c s : Int × Int) : Prop := HasP a b c s ∧ s ≠ a ∧ s ≠ b ∧ s ≠ c
instance (a b c s) : Decidable (OtherP a b c s) := by unfold OtherP; infer_instance

set_option maxRecDepth 100000 in
set_option maxHeartbeats 4000000 in
theorem other_no (a b c : Int × Int) (x : Option Addr) (n cap : Nat) (p : Nat → Int × Int) (w : World) (ha : Sm 1048576 a) (hb : Sm 1048576 b) (hc : Sm 1048576 c) (hm : n ≤ 4611686018427387904) (h : Pts w x n p)
    (hs : ∀ i, i < n → Sm 1048576 (p i)) (hno : ∀ i, i < n → ¬ OtherP a b c (p i)) :
    Calls Try.prog 72 #[encT a b c, .slice x n cap] w (Ret (.tuple #[.agg #[.int .i64 0, .int .i64 0], .bool false]) w) := by
  obtain ⟨a0, a1⟩ := a
  obtain ⟨b0, b1⟩ := b
  obtain ⟨c0, c1⟩ := c
  have h := Lib.hid h
  have hs := Lib.hid hs
  have hno := Lib.hid hno
  dsimp only [encT]
  go_enter Try.func72, Try.ntmps72
  go_wp2
  go_loopw [10] (fun i wr => ∃ k : Nat, k ≤ n ∧ i = .int .i64 k ∧ Below w.heap.size w wr ∧ Box6 wr w.heap.size (a0, a1) (b0, b1) (c0, c1) ∧ BoxS wr (w.heap.size + 1) (0, 0)) (fun i _ => n - (intOf i).toNat)
  case atStart => exact ⟨0, by omega, rfl, b2 _ _ _, ⟨⟨by go_simp, by go_simp⟩, ⟨by go_simp, by go_simp⟩, ⟨by go_simp, by go_simp⟩⟩, by
    have := heap_alloc_new (w.alloc (.cells #[.int .i64 a0, .int .i64 a1, .int .i64 b0, .int .i64 b1, .int .i64 c0, .int .i64 c1] 79)) (.cells #[.int .i64 0, .int .i64 0] 65)
    rwa [World.size_alloc] at this⟩
  case round =>
    obtain ⟨k, hk, rfl, B0, T, R⟩ := hrel
    by_cases hlt : k < n
    · have hi0 : (0 : Int) ≤ (k : Int) := by omega
      have hi1 : (k : Int) < (n : Int) := by omega
      obtain ⟨b', off', rfl, hc'⟩ := ptsOf h.out (by omega)
      obtain ⟨e0, e1⟩ := hc' k hlt
      replace e0 := cellB B0 e0
      replace e1 := cellB B0 e1
      have hsk := hs.out k hlt
      have hnk := hno.out k hlt
      have hbl : b' < wr.heap.size := block_lt_of_cell e0
      have hT : w.heap.size < wr.heap.size := block_lt_of_cell T.1.1
      clear hc'
      obtain ⟨⟨t0, t1⟩, ⟨t2, t3⟩, ⟨t4, t5⟩⟩ := id T
      generalize p k = s at *
      obtain ⟨s0, s1⟩ := s
      have hnk := Lib.hid hnk
      go_wp2_with fail
      refine calls_at (F := fun W => Below wr.heap.size wr W ∧ Box2 W wr.heap.size s0 s1) ⟨Go.Proofs.Ytnjegnlfdbbleaa.b1 _ _, ⟨by go_simp, by go_simp⟩⟩ ?_
      rintro W ⟨C0, P⟩
      refine (has_any (a0, a1) (b0, b1) (c0, c1) (s0, s1) W ha hb hc hsk).mono ?_
      rintro e w1 ⟨rfl, hb1⟩
      dsimp only
      replace B0 := nextB B0 (nextB C0 hb1)
      replace T := (T.next C0).next hb1
      replace R := (R.ext C0).ext hb1
      replace P := P.next hb1
      clear C0 hb1 e0 e1 t0 t1 t2 t3 t4 t5
      obtain ⟨⟨t0, t1⟩, ⟨t2, t3⟩, ⟨t4, t5⟩⟩ := id T
      obtain ⟨p0, p1⟩ := id P
      cases g : decide (HasP (a0, a1) (b0, b1) (c0, c1) (s0, s1))
      · go_wp2
        go_roundw
        case rel => exact ⟨k + 1, by omega, by go_num, B0, T, R⟩
        case measure => simp [intOf]; omega
      · have hor : eqP (s0, s1) (a0, a1) = true ∨ eqP (s0, s1) (b0, b1) = true ∨ eqP (s0, s1) (c0, c1) = true := by
          rw [eqP_iff, eqP_iff, eqP_iff]
          have h1 := hnk.out
          have h2 := of_decide_eq_true g
          unfold OtherP at h1
          by_cases q1 : (s0, s1) = (a0, a1)
          · exact .inl q1
          · by_cases q2 : (s0, s1) = (b0, b1)
            · exact .inr (.inl q2)
            · by_cases q3 : (s0, s1) = (c0, c1)
              · exact .inr (.inr q3)
              · exact absurd ⟨h2, q1, q2, q3⟩ h1
        cases g1 : eqP (s0, s1) (a0, a1) <;> cases g2 : eqP (s0, s1) (b0, b1) <;> cases g3 : eqP (s0, s1) (c0, c1)
        case false.false.false => rw [g1, g2, g3] at hor; simp at hor
        all_goals
          clear hor
          go_wp2
          go_roundw
          case rel => exact ⟨k + 1, by omega, by go_num, B0, T, R⟩
          case measure => simp [intOf]; omega
    · have e : k = n := by omega
      subst e
      have r0 := R.c0
      have r1 := R.c1
      have r2 := R.fr 0
      have r3 := R.fr 1
      go_wp2
      have R' := R.set 0 0
      have q0 := R'.c0
      have q1 := R'.c1
      exact bodyPost_ret (v := .tuple #[.agg #[.int .i64 0, .int .i64 0], .bool false]) (by simp [results, Try.results72, go_sem, q0, q1]) rfl (Ret.mk rfl ((B0.setCell (p := ⟨w.heap.size + 1, 0, none⟩) (by simp) _).setCell (p := ⟨w.heap.size + 1, 1, none⟩) (by simp) _))
end Go.Proofs.Ytnjegnlfdbbleaa
