/- Layer 2: the number between two corners, by the specification. -/
import Derived.Test.YtflbaadfbjpakaaEa
namespace Go.Proofs.Ytflbaadfbjpakaa
open Go Go.RowKit

/-- The number ahead of the one for d. -/
def lastD (xs : List Int) (i : Nat) : Nat → Int
  | 0 => -1
  | d + 1 => eD xs i d
theorem eD_next (xs : List Int) (i d : Nat) : eD xs i (d + 1) = nth xs ((i + d) % xs.length) * eD xs i d - lastD xs i d := by
  cases d with
  | zero => simp [eD, lastD]
  | succ d => rw [eD, lastD, Nat.add_assoc]
set_option maxRecDepth 100000 in
set_option maxHeartbeats 1600000 in
theorem refE_any (b off n cp i D : Nat) (xs : List Int) (w : World) (hR : RoundP xs) (hn : xs.length = n) (hi : i < n) (hD : D ≤ n)
    (hcell : ∀ k, k < n → w.cell? ⟨b, off + k, none⟩ = some (.int .i64 (nth xs k))) :
    Calls Try.prog 58 #[.slice (some ⟨b, off, none⟩) n cp, .int .i64 i, .int .i64 ((i : Int) + D)] w (Only (.int .i64 (eD xs i D)) w) := by
  have h3 := hR.1
  have h12 := hR.2.1
  have hbd := Lib.hid (tame_bd hR i)
  have hrb := Lib.hid hR.2.2
  have hnx := Lib.hid (eD_next xs i)
  have hl0 : Hid (lastD xs i 0 = -1) := Lib.hid rfl
  have hl1 : Hid (∀ d, lastD xs i (d + 1) = eD xs i d) := Lib.hid fun _ => rfl
  have he0 : Hid (eD xs i 0 = 0) := Lib.hid rfl
  rw [hn] at hnx
  have hn12 : n ≤ 12 := by omega
  replace hcell := Lib.hid hcell
  replace hn := Lib.hid hn
  generalize eD xs i = g at *
  generalize lastD xs i = l at *
  clear hR
  go_enter Try.func58, Try.ntmps58
  go_wp2
  go_loop [7, 8, 9] (fun la nw c => ∃ d : Nat, d ≤ D ∧ la = .int .i64 (l d) ∧ nw = .int .i64 (g d) ∧ c = .int .i64 ((i : Int) + d)) (fun _ _ c => i + D - (intOf c).toNat)
  case atStart => exact ⟨0, by omega, by rw [hl0.out], by rw [he0.out], by simp⟩
  case round =>
    obtain ⟨d, hd, rfl, rfl, rfl⟩ := hrel
    have hg1 := hbd.out d (by omega)
    have hl : -23298085122481 ≤ l d ∧ l d ≤ 23298085122481 := by
      cases d with
      | zero => rw [hl0.out]; omega
      | succ d => rw [hl1.out]; exact hbd.out d (by omega)
    by_cases hlt : d < D
    · obtain ⟨m3, m4, m5⟩ := mod_at (i + d) n (by omega)
      rw [Int.natCast_add] at m3 m4 m5
      have hm : (i + d) % n < n := Nat.mod_lt _ (by omega)
      have x0 := hcell.out _ hm
      have hy := hrb.out ((i + d) % n) (by rw [hn.out]; exact hm)
      have hml := mul_tame hy.1 hy.2 hg1.1 hg1.2
      have hstep := Lib.hid (hnx.out d)
      generalize nth xs ((i + d) % n) = y at *
      go_wp2
      go_round
      case rel => exact ⟨d + 1, by omega, by rw [hl1.out], by rw [hstep.out], by go_num⟩
      case measure => simp [intOf]; omega
    · obtain rfl : d = D := by omega
      go_wp2
      go_ret
      exact Only.mk rfl
end Go.Proofs.Ytflbaadfbjpakaa
