/- Layer 1: Sheared. -/
import Derived.Test.YtnjegnlfdbbleaaPd
import Derived.IntWalk
namespace Go.Proofs.Ytnjegnlfdbbleaa
open Go Go.RowKit Go.Shelf

/-- The four numbers that shear: in range, and they keep areas. -/
def ShearP (s0 s1 s2 s3 : Int) : Prop := Sm 50 (s0, s1) ∧ Sm 50 (s2, s3) ∧ (s0 * s3 - s1 * s2 = 1 ∨ s0 * s3 - s1 * s2 = -1)
instance (s0 s1 s2 s3) : Decidable (ShearP s0 s1 s2 s3) := by unfold ShearP; infer_instance

set_option maxHeartbeats 1600000 in
theorem shears_any (s0 s1 s2 s3 : Int) (w : World) :
    Calls Try.prog 54 #[.agg #[.int .i64 s0, .int .i64 s1, .int .i64 s2, .int .i64 s3]] w (Ret (.bool (decide (ShearP s0 s1 s2 s3))) w) := by
  have D1 := fun W => within_any s0 s1 50 W (by omega) (by omega)
  have D2 := fun W => within_any s2 s3 50 W (by omega) (by omega)
  have hS : Hid (ShearP s0 s1 s2 s3 ↔ Sm 50 (s0, s1) ∧ Sm 50 (s2, s3) ∧ (s0 * s3 - s1 * s2 = 1 ∨ s0 * s3 - s1 * s2 = -1)) := Lib.hid Iff.rfl
  cases g1 : decide (Sm 50 (s0, s1))
  · rw [g1] at D1
    have D1 := Lib.hid D1
    have n1 := Lib.hid (of_decide_eq_false g1)
    clear g1 D2
    go_enter Try.func54, Try.ntmps54
    go_wp2_with (go_at_call 47; refine (D1.out _).mono ?_; rintro e w1 ⟨rfl, hb1⟩)
    go_ret
    exact Ret.mk (ret_dec (by simp only [Bool.false_eq_true, false_iff]; intro h; exact n1.out (hS.out.1 h).1)) (nextB (b1 _ _) hb1)
  · cases g2 : decide (Sm 50 (s2, s3))
    · rw [g1] at D1
      rw [g2] at D2
      have D1 := Lib.hid D1
      have D2 := Lib.hid D2
      have n1 := Lib.hid (of_decide_eq_false g2)
      clear g1 g2
      go_enter Try.func54, Try.ntmps54
      go_wp2_with (first | (go_at_call 47; ((with_reducible refine (D1.out _).mono ?_); rintro e w1 ⟨rfl, hb1⟩; obtain ⟨hc1, hf1⟩ := bcell hb1; have hz : w.heap.size < w1.heap.size := by have := hb1.size; simp at this; omega)) | (go_at_call 47; ((with_reducible refine (D2.out _).mono ?_); rintro e w2 ⟨rfl, hb2⟩)))
      go_ret
      exact Ret.mk (ret_dec (by simp only [Bool.false_eq_true, false_iff]; intro h; exact n1.out (hS.out.1 h).2.1)) (nextB (nextB (b1 _ _) hb1) hb2)
    · have S1 := of_decide_eq_true g1
      have S2 := of_decide_eq_true g2
      rw [g1] at D1
      rw [g2] at D2
      have D1 := Lib.hid D1
      have D2 := Lib.hid D2
      clear g1 g2
      have h1 := Lib.hid S1
      have h2 := Lib.hid S2
      unfold Sm at S1 S2
      simp only [] at S1 S2
      have M1 := mul_bd (x := s0) (y := s3) (X := 50) (Y := 50) (by omega) (by omega) (by omega) (by omega)
      have M2 := mul_bd (x := s1) (y := s2) (X := 50) (Y := 50) (by omega) (by omega) (by omega) (by omega)
      go_enter Try.func54, Try.ntmps54
      go_wp2_with (first | (go_at_call 47; ((with_reducible refine (D1.out _).mono ?_); rintro e w1 ⟨rfl, hb1⟩; obtain ⟨hc1, hf1⟩ := bcell hb1; have hz : w.heap.size < w1.heap.size := by have := hb1.size; simp at this; omega)) | (go_at_call 47; ((with_reducible refine (D2.out _).mono ?_); rintro e w2 ⟨rfl, hb2⟩; obtain ⟨hc2, hf2⟩ := bcell hb2)))
      all_goals
        go_ret
        refine Ret.mk (ret_dec ?_) (nextB (nextB (b1 _ _) hb1) hb2)
        rw [hS.out]
        have k1 := h1.out
        have k2 := h2.out
        simp only [decide_eq_true_eq, beq_iff_eq, Bool.or_eq_true, Bool.false_eq_true, false_iff, true_iff]
        first | exact ⟨k1, k2, by omega⟩ | exact ⟨fun h => ⟨k1, k2, by omega⟩, fun h => by have := h.2.2; omega⟩

/-- A pen that is sheared stays in range. -/
def ShedP (n : Nat) (p : Nat → Int × Int) (s0 s1 s2 s3 : Int) : Prop := PenP n p ∧ ShearP s0 s1 s2 s3 ∧ ∀ i, i < n → Sm 50 (shP s0 s1 s2 s3 (p i))
/-- What Sheared leaves. -/
def Shed (n : Nat) (p : Nat → Int × Int) (s0 s1 s2 s3 : Int) (w : World) (e : Ending) (w' : World) : Prop :=
  Below w.heap.size w w' ∧ ((ShedP n p s0 s1 s2 s3 ∧ ∃ g c, e = .returned (.tuple #[.slice (some ⟨g, 0, none⟩) n c, .int .i64 0]) ∧ Pts w' (some ⟨g, 0, none⟩) n (fun i => shP s0 s1 s2 s3 (p i))) ∨
    (¬ ShedP n p s0 s1 s2 s3 ∧ e = .returned (.tuple #[.slice none 0 0, .int .i64 2])))
theorem Shed.no {n : Nat} {p : Nat → Int × Int} {s0 s1 s2 s3 : Int} {w w' : World} (h : ¬ ShedP n p s0 s1 s2 s3) (hb : Below w.heap.size w w') : Shed n p s0 s1 s2 s3 w (.returned (.tuple #[.slice none 0 0, .int .i64 2])) w' := ⟨hb, .inr ⟨h, rfl⟩⟩

set_option maxRecDepth 100000 in
set_option maxHeartbeats 4000000 in
theorem Sheared_any (a : Option Addr) (n c : Nat) (p : Nat → Int × Int) (s0 s1 s2 s3 : Int) (w : World) (hm : n ≤ 4611686018427387904) (h : Pts w a n p) :
    Calls Try.prog 29 #[.slice a n c, .agg #[.int .i64 s0, .int .i64 s1, .int .i64 s2, .int .i64 s3]] w (Shed n p s0 s1 s2 s3 w) := by
  have H : Hid (∀ w1, Below w.heap.size w w1 → _) := Lib.hid fun w1 (hb : Below w.heap.size w w1) => penOf_any a n c p w1 hm (h.next hb)
  have HS := Lib.hid (fun w => shears_any s0 s1 s2 s3 w)
  obtain ⟨i0, hi, hz0, hz1, hz2⟩ := info_parts infoPt
  have I0 := Lib.hid hi
  have I1 := Lib.hid hz0
  have I2 := Lib.hid hz1
  have I3 := Lib.hid hz2
  clear hi hz0 hz1 hz2 h
  go_enter Try.func29, Try.ntmps29
  go_wp2_with fail
  have q0 := show (w.alloc (.cells #[.int .i64 s0, .int .i64 s1, .int .i64 s2, .int .i64 s3] 39)).cell? ⟨w.heap.size, 0, none⟩ = some (.int .i64 s0) by go_simp
  have q1 := show (w.alloc (.cells #[.int .i64 s0, .int .i64 s1, .int .i64 s2, .int .i64 s3] 39)).cell? ⟨w.heap.size, 1, none⟩ = some (.int .i64 s1) by go_simp
  have q2 := show (w.alloc (.cells #[.int .i64 s0, .int .i64 s1, .int .i64 s2, .int .i64 s3] 39)).cell? ⟨w.heap.size, 2, none⟩ = some (.int .i64 s2) by go_simp
  have q3 := show (w.alloc (.cells #[.int .i64 s0, .int .i64 s1, .int .i64 s2, .int .i64 s3] 39)).cell? ⟨w.heap.size, 3, none⟩ = some (.int .i64 s3) by go_simp
  have hb0 : Below w.heap.size w (w.alloc (.cells #[.int .i64 s0, .int .i64 s1, .int .i64 s2, .int .i64 s3] 39)) := b1 _ _
  generalize w.alloc (.cells #[.int .i64 s0, .int .i64 s1, .int .i64 s2, .int .i64 s3] 39) = W0 at *
  refine (H.out _ hb0).mono ?_
  rintro e w1 ⟨hb1, (⟨hp, g, c', rfl, hc'⟩ | ⟨hp, a', m', c', rfl⟩)⟩
  · replace q0 := cellB hb1 q0
    replace q1 := cellB hb1 q1
    replace q2 := cellB hb1 q2
    replace q3 := cellB hb1 q3
    have h3 : 3 ≤ n := hp.1
    have h10 : n ≤ 10 := hp.2.1
    have hs := Lib.hid hp.sm
    have hp := Lib.hid hp
    have hc := Lib.hid hc'
    have B1 := nextB hb0 hb1
    clear hc' H hb0 hb1
    dsimp only
    by_cases hsh : ShearP s0 s1 s2 s3
    · have HS1 := HS.out
      simp only [decide_eq_true hsh] at HS1
      have hS := Lib.hid hsh
      have HS1 := Lib.hid HS1
      obtain ⟨S1, S2, _⟩ := hsh
      unfold Sm at S1 S2
      simp only [] at S1 S2
      go_wp2_with fail
      refine (HS1.out _).mono ?_
      rintro e w2 ⟨rfl, hb2⟩
      dsimp only
      replace q0 := cellB hb2 q0
      replace q1 := cellB hb2 q1
      replace q2 := cellB hb2 q2
      replace q3 := cellB hb2 q3
      have hc2 := Lib.hid (pts_next hb2 hc.out)
      have B2 := nextB B1 hb2
      clear hb2 B1 hc HS
      go_wp2
      go_loopw [8, 26] (fun v i wr => ∃ k : Nat, k ≤ n ∧ i = .int .i64 k ∧ wr.ownsRow w2.heap.size 32 2 v k (cellsOf (fun i => shP s0 s1 s2 s3 (p i)) k) ∧ (∀ j, j < k → Sm 50 (shP s0 s1 s2 s3 (p j))) ∧ Below w2.heap.size w2 wr) (fun _ i _ => n - (intOf i).toNat)
      case atStart => exact ⟨0, by omega, rfl, World.ownsRow_nil _ _ _ _, fun j hj => absurd hj (by omega), Below.refl _ _⟩
      case round =>
        obtain ⟨k, hk, rfl, hown, hok, C0⟩ := hrel
        have hok := Lib.hid hok
        by_cases hlt : k < n
        · have hi0 : (0 : Int) ≤ (k : Int) := by omega
          have hi1 : (k : Int) < (n : Int) := by omega
          obtain ⟨e0, e1⟩ := hc2.out k hlt
          replace e0 := cellB C0 e0
          replace e1 := cellB C0 e1
          have y0 := cellB C0 q0
          have y1 := cellB C0 q1
          have y2 := cellB C0 q2
          have y3 := cellB C0 q3
          have S := hs.out k hlt
          unfold Sm at S
          have M0 := mul_bd (x := s0) (y := (p k).1) (X := 50) (Y := 50) (by omega) (by omega) (by omega) (by omega)
          have M1 := mul_bd (x := s1) (y := (p k).2) (X := 50) (Y := 50) (by omega) (by omega) (by omega) (by omega)
          have M2 := mul_bd (x := s2) (y := (p k).1) (X := 50) (Y := 50) (by omega) (by omega) (by omega) (by omega)
          have M3 := mul_bd (x := s3) (y := (p k).2) (X := 50) (Y := 50) (by omega) (by omega) (by omega) (by omega)
          rw [Nat.zero_add] at e0 e1
          have hl1 := block_lt_of_cell e0
          have hl2 := block_lt_of_cell y0
          have hD := fun W => within_any (s0 * (p k).1 + s1 * (p k).2) (s2 * (p k).1 + s3 * (p k).2) 50 W (by omega) (by omega)
          go_wp2_with fail
          refine (hD _).mono ?_
          rintro e w3 ⟨rfl, hb3⟩
          dsimp only
          have z0 := cellB hb3 (p := ⟨wr.heap.size + 1, 0, none⟩) (v := .int .i64 (s0 * (p k).1 + s1 * (p k).2)) (by go_simp)
          have z1 := cellB hb3 (p := ⟨wr.heap.size + 1, 1, none⟩) (v := .int .i64 (s2 * (p k).1 + s3 * (p k).2)) (by go_simp)
          have C3 := nextB C0 (nextB (b2 _ _ _) hb3)
          have hown3 := owns_next ((hown.alloc _).alloc _) hb3
          clear y0 y1 y2 y3 e0 e1 hb3 hown hl1 hl2 M0 M1 M2 M3 S C0
          cases g2 : decide (Sm 50 (s0 * (p k).1 + s1 * (p k).2, s2 * (p k).1 + s3 * (p k).2))
          · have hno : Hid (¬ ShedP n p s0 s1 s2 s3) := Lib.hid (fun h => of_decide_eq_false g2 (h.2.2 k hlt))
            go_wp2
            go_ret2
            exact Shed.no hno.out (nextB B2 C3)
          · have hyes := Lib.hid (of_decide_eq_true g2)
            go_wp2_with fail
            refine (pointOf_any _ _ _).mono ?_
            rintro e w4 ⟨rfl, hb4⟩
            dsimp only
            have C4 := nextB C3 hb4
            have hown4 := owns_next hown3 hb4
            clear z0 z1 hb4 hown3 C3
            go_wp2_with (at_builtin; refine wpList_append_own _ rfl _ _ 22 rfl w2.heap.size 32 i0 (.agg #[.int .i64 0, .int .i64 0]) 2 16 Try.underlying22 I0.out I1.out I2.out I3.out rfl (by decide) _ _ _ rfl (hown4.alloc _) ⟨w4.heap.size, 0, none⟩ 1 1 [.int .i64 (s0 * (p k).1 + s1 * (p k).2), .int .i64 (s2 * (p k).1 + s3 * (p k).2)] rfl rfl (cell_two_new _ _ _ _) (by simp [Value.oneCell']) (by unfold maxLen; omega) (by omega) (by have := C4.size; simp; omega) ?_; intro v' w5 hown5 hgrow _; have hv5 := hown5)
            go_roundw
            case rel => exact ⟨k + 1, by omega, by go_num, by rw [cellsOf_succ]; exact hown5, fun j hj => (by
              by_cases hjk : j = k
              · subst hjk; exact hyes.out
              · exact hok.out j (by omega)), (C4.alloc C4.size _).grown hgrow (by have := C4.size; simp; omega) (fun g h => (hown4.lt g h).1)⟩
            case measure => simp [intOf]; omega
        · obtain rfl : k = n := by omega
          obtain ⟨g1, cap, rfl⟩ : ∃ g1 cap, u8 = .slice (some ⟨g1, 0, none⟩) k cap := by
            obtain ⟨m, hm⟩ : ∃ m, k = m + 1 := ⟨k - 1, by omega⟩
            have h := hown
            rw [hm] at h ⊢
            exact ownsRow_succ h
          have hyes : Hid (ShedP k p s0 s1 s2 s3) := Lib.hid ⟨hp.out, hS.out, hok.out⟩
          go_wp2
          go_ret2
          exact ⟨nextB B2 C0, .inl ⟨hyes.out, g1, cap, rfl, .inr ⟨g1, 0, rfl, fun i hi => owns_pts hown i hi⟩⟩⟩
    · have HS1 := HS.out
      simp only [decide_eq_false hsh] at HS1
      have hno : Hid (¬ ShedP n p s0 s1 s2 s3) := Lib.hid (fun h => hsh h.2.1)
      replace HS1 := Lib.hid HS1
      clear hsh
      go_wp2_with fail
      refine (HS1.out _).mono ?_
      rintro e w2 ⟨rfl, hb2⟩
      dsimp only
      go_wp2
      go_ret2
      exact Shed.no hno.out (nextB B1 hb2)
  · have hno : Hid (¬ ShedP n p s0 s1 s2 s3) := Lib.hid (fun h => hp h.1)
    clear hp
    dsimp only
    go_wp2
    go_ret2
    exact Shed.no hno.out (nextB hb0 hb1)
end Go.Proofs.Ytnjegnlfdbbleaa
