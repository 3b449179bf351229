/- Layer 1: penOf: the posts, and whether they are a pen. -/
import Derived.Test.YtnjegnlfdbbleaaF
namespace Go.Proofs.Ytnjegnlfdbbleaa
open Go Go.RowKit

theorem infoSpot : (Try.prog.info? 65).map (fun i => (i.zero, i.size, i.bytes)) = some (some (.agg #[.int .i64 0, .int .i64 0]), 2, 16) := by kernel_rfl

/-- What penOf leaves: the posts in new memory and true; or something, and false. -/
def PenOf (n : Nat) (p : Nat → Int × Int) (Y : Prop) (w : World) (e : Ending) (w' : World) : Prop :=
  Below w.heap.size w w' ∧ ((Y ∧ ∃ g c, e = .returned (.tuple #[.slice (some ⟨g, 0, none⟩) n c, .bool true]) ∧
    ∀ i, i < n → w'.cell? ⟨g, 0 + i * 2, none⟩ = some (.int .i64 (p i).1) ∧ w'.cell? ⟨g, 0 + i * 2 + 1, none⟩ = some (.int .i64 (p i).2)) ∨
    (¬ Y ∧ ∃ a m c, e = .returned (.tuple #[.slice a m c, .bool false])))

set_option maxHeartbeats 1600000 in
theorem penOf_no (a : Option Addr) (n c : Nat) (p : Nat → Int × Int) (Y : Prop) (w : World) (hn : n < 3 ∨ 10 < n) (hm : n ≤ 4611686018427387904) (hY : ¬ Y) :
    Calls Try.prog 35 #[.slice a n c] w (PenOf n p Y w) := by
  have HY := Lib.hid hY
  clear hY
  rcases hn with hn | hn
  all_goals
    go_enter Try.func35, Try.ntmps35
    go_wp2
    go_ret2
    exact ⟨Below.refl _ _, .inr ⟨HY.out, none, 0, 0, rfl⟩⟩

set_option maxRecDepth 100000 in
set_option maxHeartbeats 4000000 in
theorem penOf_yes (b off n c : Nat) (p : Nat → Int × Int) (Y : Prop) (w : World) (h3 : 3 ≤ n) (h10 : n ≤ 10) (hY : Y ↔ (∀ i, i < n → Sm 50 (p i)) ∧ SimP n p)
    (hc : ∀ i, i < n → w.cell? ⟨b, off + i * 2, none⟩ = some (.int .i64 (p i).1) ∧ w.cell? ⟨b, off + i * 2 + 1, none⟩ = some (.int .i64 (p i).2)) :
    Calls Try.prog 35 #[.slice (some ⟨b, off, none⟩) n c] w (PenOf n p Y w) := by
  have hc := Lib.hid hc
  have HY := Lib.hid hY
  clear hY
  obtain ⟨i0, hi, hz0, hz1, hz2⟩ := info_parts infoSpot
  have H0 := Lib.hid hi
  have H1 := Lib.hid hz0
  have H2 := Lib.hid hz1
  have H3 := Lib.hid hz2
  clear hi hz0 hz1 hz2
  go_enter Try.func35, Try.ntmps35
  go_wp2_with (at_make; refine wpList_make_own _ rfl _ _ 54 rfl w.heap.size 65 i0 _ 2 Try.underlying54 H0.out H1.out H2.out .i64 .i64 _ n rfl rfl rfl (by rw [H3.out]; omega) (by unfold maxLen; omega) (Nat.le_refl _) ?_; intro w0 hown hgrow)
  have B0 : Below w.heap.size w w0 := (Below.refl _ _).grown hgrow (Nat.le_refl _) (fun _ h => by cases h)
  clear hgrow
  go_loopw [4, 21] (fun v i wr => ∃ k : Nat, k ≤ n ∧ i = .int .i64 k ∧ v = .slice (some ⟨w.heap.size, 0, none⟩) k n ∧ wr.ownsRow w.heap.size 65 2 (.slice (some ⟨w.heap.size, 0, none⟩) k n) k (cellsOf p k) ∧ (∀ j, j < k → Sm 50 (p j)) ∧ Below w.heap.size w wr) (fun _ i _ => n - (intOf i).toNat)
  case atStart => exact ⟨0, by omega, rfl, rfl, hown, fun j hj => absurd hj (by omega), B0⟩
  case round =>
    clear hown B0
    obtain ⟨k, hk, rfl, rfl, hown, hok, B0⟩ := hrel
    by_cases hlt : k < n
    · have hok := Lib.hid hok
      have hi0 : (0 : Int) ≤ (k : Int) := by omega
      have hi1 : (k : Int) < (n : Int) := by omega
      obtain ⟨e0, e1⟩ := hc.out k hlt
      replace e0 := cellB B0 e0
      replace e1 := cellB B0 e1
      go_wp2_with fail
      refine (spotOf_any _ _ _).mono ?_
      rintro e w1 ⟨rfl, hb1⟩
      dsimp only
      replace B0 := nextB B0 (nextB (b1 _ _) hb1)
      replace hown := owns_next (hown.alloc _) hb1
      clear e0 e1 hb1
      go_wp2_with fail
      refine (within_any _ _ _ _ (by omega) (by omega)).mono ?_
      rintro e w2 ⟨rfl, hb2⟩
      dsimp only
      replace B0 := nextB B0 (nextB (b1 _ _) hb2)
      replace hown := owns_next (hown.alloc _) hb2
      have q0 := cellB hb2 (p := ⟨w1.heap.size, 0, none⟩) (v := .int .i64 (p k).1) (by go_simp)
      have q1 := cellB hb2 (p := ⟨w1.heap.size, 1, none⟩) (v := .int .i64 (p k).2) (by go_simp)
      clear hb2
      cases g : decide (Sm 50 ((p k).1, (p k).2))
      · go_wp2
        go_ret2
        exact ⟨B0, .inr ⟨fun hy => of_decide_eq_false g ((HY.out.1 hy).1 k hlt), none, 0, 0, rfl⟩⟩
      · go_wp2_with (at_builtin; refine wpList_append_fits _ rfl _ _ 54 rfl w.heap.size 65 i0 2 Try.underlying54 H0.out H2.out w.heap.size k n _ rfl (hown.alloc _) ⟨w2.heap.size, 0, none⟩ 1 1 [.int .i64 (p k).1, .int .i64 (p k).2] rfl rfl (cell_two_new _ _ _ _) (by simp [Value.oneCell']) (by omega) ?_; intro w3 hown3 hgrow3)
        replace B0 := (nextB B0 (b1 _ _)).grown hgrow3 (by have := B0.size; simp; omega) (fun _ h => by cases h; exact Nat.le_refl _)
        rw [← cellsOf_succ] at hown3
        go_roundw
        case rel => exact ⟨k + 1, by omega, by go_num, rfl, hown3, fun j hj => (by
          by_cases hjk : j = k
          · subst hjk; exact of_decide_eq_true g
          · exact hok.out j (by omega)), B0⟩
        case measure => simp [intOf]; omega
    · have e : k = n := by omega
      subst e
      have HP := Lib.hid (owns_pts hown)
      have hok := Lib.hid hok
      clear hown
      go_wp2_with (go_at_call 57; refine (simple_any w.heap.size 0 _ _ p _ h3 h10 hok.out HP.out).mono ?_; rintro e w1 ⟨rfl, hb1⟩)
      go_ret2
      refine ⟨nextB B0 hb1, ?_⟩
      by_cases hs : SimP k p
      · refine .inl ⟨HY.out.2 ⟨hok.out, hs⟩, w.heap.size, k, by simp [hs], fun i hi => ?_⟩
        obtain ⟨h1, h2⟩ := HP.out i hi
        exact ⟨cellB hb1 h1, cellB hb1 h2⟩
      · exact .inr ⟨fun hy => hs (HY.out.1 hy).2, some ⟨w.heap.size, 0, none⟩, k, k, by simp [hs]⟩

theorem penOf_any0 (a : Option Addr) (n c : Nat) (p : Nat → Int × Int) (w : World) (hm : n ≤ 4611686018427387904) (h : Pts w a n p) :
    Calls Try.prog 35 #[.slice a n c] w (PenOf n p (3 ≤ n ∧ n ≤ 10 ∧ (∀ i, i < n → Sm 50 (p i)) ∧ SimP n p) w) := by
  by_cases hn : n < 3 ∨ 10 < n
  · exact penOf_no a n c p _ w hn hm (fun hp => by have := hp.1; have := hp.2.1; omega)
  · rcases h with h | ⟨b, off, rfl, hc⟩
    · omega
    · exact penOf_yes b off n c p _ w (by omega) (by omega) ⟨fun hp => hp.2.2, fun hp => ⟨by omega, by omega, hp⟩⟩ hc
end Go.Proofs.Ytnjegnlfdbbleaa
