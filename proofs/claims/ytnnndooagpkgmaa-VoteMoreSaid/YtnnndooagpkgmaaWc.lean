/- Layer 3, by the specification: which lists are bodies. -/
import Derived.Test.YtnnndooagpkgmaaWb
namespace Go.Proofs.Ytnnndooagpkgmaa
open Go Go.RowKit

/-- The sum of the first weights. -/
def psum (ws : List Int) : Nat → Int
  | 0 => 0
  | k + 1 => psum ws k + nth ws k
theorem wsum_full (ws : List Int) (n : Nat) : ∀ k, k ≤ n → wsum ws (pw n - 1) k = psum ws k := by
  intro k
  induction k with
  | zero => intro _; rfl
  | succ k ih =>
    intro hk
    have : bt (pw n - 1) k = 1 := bt_one.2 (by rw [full_test]; exact decide_eq_true (by omega))
    rw [wsum, psum, ih (by omega), this]
    simp
theorem total_psum (ws : List Int) : total ws = psum ws ws.length := wsum_full ws ws.length ws.length (Nat.le_refl _)
theorem psum_bd {ws : List Int} {k : Nat} (h : ∀ i, i < k → 0 ≤ nth ws i ∧ nth ws i ≤ 1000) : 0 ≤ psum ws k ∧ psum ws k ≤ 1000 * k := by
  induction k with
  | zero => simp [psum]
  | succ k ih =>
    have h1 := ih (fun i hi => h i (by omega))
    have h2 := h k (by omega)
    rw [psum]
    omega
def WtsTo (ws : List Int) (k : Nat) : Prop := ∀ i, i < k → 0 ≤ nth ws i ∧ nth ws i ≤ 1000
set_option maxRecDepth 100000 in
set_option maxHeartbeats 4000000 in
theorem refIsBody_any (q : Int) (a : Option Addr) (n c : Nat) (ws : List Int) (w : World) (h : Ints w a ws) (hl : ws.length = n) (hn : n ≤ 1000) :
    Calls Try.prog 41 #[bodyV q a n c] w (Ret (.bool (decide (BodyP q ws))) w) := by
  have hBP : Hid (BodyP q ws ↔ 1 ≤ n ∧ n ≤ 8 ∧ WtsTo ws n ∧ 1 ≤ q ∧ q ≤ psum ws n) := Lib.hid (by
    unfold BodyP Wts WtsTo
    rw [total_psum, hl])
  have hc : Hid (0 < n → ∃ b off, a = some ⟨b, off, none⟩ ∧ b < w.heap.size ∧ ∀ i, i < n → w.cell? ⟨b, off + i, none⟩ = some (.int .i64 (nth ws i))) := Lib.hid (fun h0 => by
    obtain ⟨b, off, e, hc⟩ := ints_at h (by omega)
    exact ⟨b, off, e, block_lt_of_cell (hc 0 (by omega)), fun i hi => hc i (by omega)⟩)
  clear h hl
  go_enter Try.func41, Try.ntmps41
  go_wp2
  have X0 := Blk.new w 24 #[.int .i64 q, .slice a n c]
  have hb := b1 w (.cells #[.int .i64 q, .slice a n c] 24)
  generalize w.alloc (.cells #[.int .i64 q, .slice a n c] 24) = W at *
  have x0 := X0.c 0 rfl
  have x1 := X0.c 1 rfl
  replace X0 := Lib.hid X0
  go_loop [3, 4] (fun s i => ∃ k : Nat, k ≤ n ∧ i = .int .i64 k ∧ s = .int .i64 (psum ws k) ∧ WtsTo ws k) (fun _ i => n - (intOf i).toNat)
  case atStart => exact ⟨0, by omega, rfl, rfl, fun i hi => absurd hi (by omega)⟩
  case round =>
    obtain ⟨k, hk, rfl, rfl, hT⟩ := hrel
    obtain ⟨b0, b1'⟩ := psum_bd hT
    replace hT := Lib.hid hT
    by_cases hlt : k < n
    · obtain ⟨b, off, rfl, hbl, hcc⟩ := hc.out (by omega)
      have y0 := cellB hb (hcc k hlt)
      clear hcc
      have hki : (k : Int) < (n : Int) := by omega
      have hst := Lib.hid (show psum ws (k + 1) = psum ws k + nth ws k from rfl)
      have hno := Lib.hid (fun (h : ¬ (0 ≤ nth ws k ∧ nth ws k ≤ 1000)) => (show decide (BodyP q ws) = false from decide_eq_false (fun h2 => h ((hBP.out.1 h2).2.2.1 k hlt))))
      have hyes := Lib.hid (fun (h : 0 ≤ nth ws k ∧ nth ws k ≤ 1000) => (show WtsTo ws (k + 1) from lt_succ_all hT.out h))
      generalize nth ws k = y at *
      generalize psum ws k = s at *
      cases g1 : decide (y < 0)
      · cases g2 : decide (1000 < y)
        · have hy := Lib.hid (hyes.out (by have := of_decide_eq_false g1; have := of_decide_eq_false g2; omega))
          have hy0 : 0 ≤ y := by have := of_decide_eq_false g1; omega
          have hy1 : y ≤ 1000 := by have := of_decide_eq_false g2; omega
          go_wp2
          go_round
          case rel => exact ⟨k + 1, by omega, by go_num, by rw [hst.out], hy.out⟩
          case measure => simp [intOf]; omega
        · have hf := Lib.hid (hno.out (by have := of_decide_eq_true g2; omega))
          go_wp2
          go_ret
          exact Ret.mk (show Value.bool false = _ by rw [hf.out]) hb
      · have hf := Lib.hid (hno.out (by have := of_decide_eq_true g1; omega))
        go_wp2
        go_ret
        exact Ret.mk (show Value.bool false = _ by rw [hf.out]) hb
    · obtain rfl : k = n := by omega
      generalize psum ws k = s at *
      have hR : Hid (decide (BodyP q ws) = (decide (1 ≤ k) && decide (k ≤ 8) && decide (1 ≤ q) && decide (q ≤ s))) := Lib.hid (by
        rw [Bool.eq_iff_iff]
        simp only [Bool.and_eq_true, decide_eq_true_eq]
        rw [hBP.out]
        exact ⟨fun h => ⟨⟨⟨h.1, h.2.1⟩, h.2.2.2.1⟩, h.2.2.2.2⟩, fun h => ⟨h.1.1.1, h.1.1.2, hT.out, h.1.2, h.2⟩⟩)
      cases g1 : decide (1 ≤ k)
      case' true => cases g2 : decide (k ≤ 8)
      case' true.true => cases g3 : decide (1 ≤ q)
      case' true.true.true => cases g4 : decide (q ≤ s)
      all_goals
        have hR2 := hR.out
        (try rw [g1] at hR2)
        (try rw [g2] at hR2)
        (try rw [g3] at hR2)
        (try rw [g4] at hR2)
        have i1 : decide (1 ≤ (k : Int)) = decide (1 ≤ k) := by rw [decide_eq_decide]; omega
        have i2 : decide ((k : Int) ≤ 8) = decide (k ≤ 8) := by rw [decide_eq_decide]; omega
        (try rw [g1] at i1)
        (try rw [g2] at i2)
        replace hR2 := Lib.hid hR2
        go_wp2
        go_ret
        refine Ret.mk ?_ hb
        rw [hR2.out]
        first | rfl | (simp; done)
end Go.Proofs.Ytnnndooagpkgmaa
