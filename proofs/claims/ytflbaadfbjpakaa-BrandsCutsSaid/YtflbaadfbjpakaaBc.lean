/- Layer 2: is a pair in a list; are corners joined. -/
import Derived.Test.YtflbaadfbjpakaaBb
namespace Go.Proofs.Ytflbaadfbjpakaa
open Go Go.RowKit

theorem prs_at {w : World} {a : Option Addr} {L : List (Int × Int)} (h : Prs w a L) (hn : 0 < L.length) :
    ∃ b off, a = some ⟨b, off, none⟩ ∧ ∀ i, i < L.length → w.cell? ⟨b, off + i * 2, none⟩ = some (.int .i64 (pth L i).1) ∧ w.cell? ⟨b, off + i * 2 + 1, none⟩ = some (.int .i64 (pth L i).2) := by
  rcases h with h | h
  · omega
  · exact h
/-- Where a pair stands in a list. -/
def PlaceOf (L : List (Int × Int)) (q : Int × Int) (r : Int) : Prop := -1 ≤ r ∧ (0 ≤ r ↔ q ∈ L)
set_option maxRecDepth 100000 in
set_option maxHeartbeats 800000 in
theorem index_any (a : Option Addr) (n c : Nat) (L : List (Int × Int)) (q0 q1 : Int) (w : World) (h : Prs w a L) (hn : L.length = n) (hm : n ≤ 4611686018427387904) :
    Calls Try.prog 95 #[.slice a n c, .agg #[.int .i64 q0, .int .i64 q1]] w fun e w' => ∃ r, e = .returned (.int .i64 r) ∧ PlaceOf L (q0, q1) r ∧ Below w.heap.size w w' := by
  by_cases h0 : n = 0
  · subst h0
    have hn := Lib.hid hn
    go_enter Try.func95, Try.ntmps95
    go_wp2
    go_loop [5, 8] (fun v i => i = .int .i64 0) (fun _ i => 0)
    case atStart => rfl
    case round =>
      subst hrel
      go_wp2
      go_ret
      refine ⟨_, rfl, ⟨by omega, ?_⟩, b1 _ _⟩
      have := List.eq_nil_of_length_eq_zero hn.out
      subst this
      simp
  · obtain ⟨b, off, rfl, hc⟩ := prs_at h (by omega)
    rw [hn] at hc
    replace hc := Lib.hid hc
    have hn := Lib.hid hn
    clear h
    go_enter Try.func95, Try.ntmps95
    go_wp2
    have hb0 := b1 w (.cells #[.int .i64 q0, .int .i64 q1] 60)
    have hbx : Box2 (w.alloc (.cells #[.int .i64 q0, .int .i64 q1] 60)) w.heap.size q0 q1 := ⟨by go_simp, by go_simp⟩
    go_loopw [5, 8] (fun v i wr => ∃ k : Nat, k ≤ n ∧ i = .int .i64 k ∧ (∀ j, j < k → pth L j ≠ (q0, q1)) ∧ Box2 wr w.heap.size q0 q1 ∧ Below w.heap.size w wr) (fun _ i _ => n - (intOf i).toNat)
    case atStart => exact ⟨0, by omega, rfl, fun j hj => absurd hj (by omega), hbx, hb0⟩
    case round =>
      clear hbx hb0
      obtain ⟨k, hk, rfl, hno, hbx, B0⟩ := hrel
      have hno := Lib.hid hno
      by_cases hlt : k < n
      · obtain ⟨e0, e1⟩ := hc.out k hlt
        have x0 := cellX (cellB B0 e0)
        have x1 := cellX (cellB B0 e1)
        have y0 := cellX hbx.1
        have y1 := cellX hbx.2
        clear e0 e1
        have hi0 : (0 : Int) ≤ (k : Int) := by omega
        have hi1 : (k : Int) < (n : Int) := by omega
        go_wp2
        refine wp_region_ext (by kernel_rfl) (by kernel_rfl) ?_
        repeat (go_big_quiet_step (fail))
        refine wpQuiet_nil ?_
        rintro ⟨w1, hw1⟩
        dsimp only
        replace B0 := nextB B0 hw1
        replace hbx := hbx.next hw1
        clear x0 x1 y0 y1
        cases g : eqP (q0, q1) ((pth L k).1, (pth L k).2)
        · go_wp2
          go_roundw
          case rel => exact ⟨k + 1, by omega, by go_num, fun j hj => (by
            by_cases hjk : j = k
            · subst hjk; exact fun e => eqP_not.1 g e.symm
            · exact hno.out j (by omega)), hbx, B0⟩
          case measure => simp [intOf]; omega
        · go_wp2
          go_ret
          exact ⟨k, rfl, ⟨by omega, ⟨fun _ => by have := eqP_iff.1 g; rw [this]; exact pth_mem (by rw [hn.out]; exact hlt), fun _ => by omega⟩⟩, B0⟩
      · go_wp2
        go_ret
        refine ⟨_, rfl, ⟨by omega, ⟨fun h => absurd h (by omega), fun hq => ?_⟩⟩, B0⟩
        obtain ⟨i, hi, e⟩ := mem_pth hq
        exact absurd e (hno.out i (by rw [hn.out] at hi; omega))
theorem contains_any (a : Option Addr) (n c : Nat) (L : List (Int × Int)) (q0 q1 : Int) (w : World) (h : Prs w a L) (hn : L.length = n) (hm : n ≤ 4611686018427387904) :
    Calls Try.prog 88 #[.slice a n c, .agg #[.int .i64 q0, .int .i64 q1]] w (Ret (.bool (decide ((q0, q1) ∈ L))) w) := by
  have H := fun W hW => index_any a n c L q0 q1 W hW hn hm
  replace H := Lib.hid H
  have h := Lib.hid h
  replace hn := Lib.hid hn
  go_enter Try.func88, Try.ntmps88
  go_wp2_with (go_at_call 95; refine (H.out _ (h.out.next (b1 _ _))).mono ?_; rintro e w1 ⟨r, rfl, hr, hb1⟩; replace hr := Lib.hid hr)
  go_ret
  refine Ret.mk ?_ (nextB (b1 _ _) hb1)
  have := hr.out.2
  by_cases hq : (q0, q1) ∈ L
  · have := this.2 hq; simp [hq, this]
  · have : ¬ 0 ≤ r := fun h => hq (this.1 h); simp [hq]; omega
/-- Two corners are neighbours, or joined by a line. -/
def NearP (n : Int) (L : List (Int × Int)) (i k : Int) : Prop := Nbr n i k ∨ (min i k, max i k) ∈ L
instance (n : Int) (L : List (Int × Int)) (i k : Int) : Decidable (NearP n L i k) := by unfold NearP; infer_instance
end Go.Proofs.Ytflbaadfbjpakaa
