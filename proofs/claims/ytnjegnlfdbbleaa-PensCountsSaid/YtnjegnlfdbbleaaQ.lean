/- Layer 1: does a pen go once around 0, 0, with nothing else inside? -/
import Derived.Test.YtnjegnlfdbbleaaY
import Derived.Test.YtnjegnlfdbbleaaN
namespace Go.Proofs.Ytnjegnlfdbbleaa
open Go Go.RowKit Go.Shelf

/-- At how many posts a pen turns to the left, and to the right. -/
def bendI (n : Nat) (p : Nat → Int × Int) : Bend := (sidesTo n p n).foldl bstep ⟨0, 0, p (n - 1)⟩
theorem bendL_map (q : Int × Int) (ys : List Side) : bendL q ys = (ys.map (·.1)).foldl bstep ⟨0, 0, q⟩ := by simp [bendL, List.foldl_map]
theorem bends_any (b off n c : Nat) (p : Nat → Int × Int) (w : World) (h1 : 1 ≤ n) (h10 : n ≤ 10) (hs : ∀ i, i < n → Sm 50 (p i))
    (hc : ∀ i, i < n → w.cell? ⟨b, off + i * 2, none⟩ = some (.int .i64 (p i).1) ∧ w.cell? ⟨b, off + i * 2 + 1, none⟩ = some (.int .i64 (p i).2)) :
    Calls Try.prog 40 #[.slice (some ⟨b, off, none⟩) n c] w (Ret (.tuple #[.int .i64 (bendI n p).left, .int .i64 (bendI n p).right]) w) := by
  refine (bends_any0 b off n c p w h1 h10 hs hc).mono ?_
  rintro e w' ⟨hb, ys, hy, rfl⟩
  rw [bendL_map, hy]
  exact Ret.mk rfl hb
theorem bendI_bd {n : Nat} {p : Nat → Int × Int} (h1 : 1 ≤ n) (hs : ∀ i, i < n → Sm 50 (p i)) : 0 ≤ (bendI n p).left ∧ (bendI n p).left ≤ n ∧ 0 ≤ (bendI n p).right ∧ (bendI n p).right ≤ n := by
  have e : ∀ k, k ≤ n → ∃ ys : List Side, ys.map (·.1) = sidesTo n p k := by
    intro k
    induction k with
    | zero => exact fun _ => ⟨[], rfl⟩
    | succ k ih =>
      intro hk
      obtain ⟨ys, hy⟩ := ih (by omega)
      refine ⟨ys ++ [⟨sideAt n p k, hs _ (by omega), hs _ (Nat.mod_lt _ (by omega))⟩], ?_⟩
      rw [List.map_append, hy, sidesTo_succ]
      rfl
  obtain ⟨ys, hy⟩ := e n (Nat.le_refl _)
  have := bendL_bd (hs (n - 1) (by omega)) ys
  rw [bendL_map, hy] at this
  have hl : ys.length = n := by rw [← List.length_map (f := (·.1)), hy]; simp [sidesTo]
  rw [hl] at this
  exact ⟨this.1, this.2.1, this.2.2.1, this.2.2.2.1⟩
/-- The pen goes around 0, 0 alone, and turns to one side at every post. -/
def RoundC (n : Nat) (p : Nat → Int × Int) : Prop := ((bendI n p).left = n ∨ (bendI n p).right = n) ∧ grownI (areaI n p) (borderI n p) (-1) = 1 ∧ whereI n p (0, 0) = 1
instance (n p) : Decidable (RoundC n p) := by unfold RoundC; infer_instance

set_option maxHeartbeats 1600000 in
theorem roundCentre_any (b off n c : Nat) (p : Nat → Int × Int) (w : World) (h1 : 1 ≤ n) (h10 : n ≤ 10) (hs : ∀ i, i < n → Sm 50 (p i))
    (hc : ∀ i, i < n → w.cell? ⟨b, off + i * 2, none⟩ = some (.int .i64 (p i).1) ∧ w.cell? ⟨b, off + i * 2 + 1, none⟩ = some (.int .i64 (p i).2)) :
    Calls Try.prog 50 #[.slice (some ⟨b, off, none⟩) n c] w (Ret (.bool (decide (RoundC n p))) w) := by
  have H := Lib.hid (bends_any b off n c p w h1 h10 hs hc)
  have HI : Hid (∀ w1, Below w.heap.size w w1 → _) := Lib.hid fun w1 hb => inside_any b off n c p w1 h1 h10 hs (pts_next hb hc)
  have HW : Hid (∀ w1, Below w.heap.size w w1 → _) := Lib.hid fun w1 hb => where_any b off n c p 0 0 w1 h1 h10 hs (by unfold Sm; simp) (pts_next hb hc)
  have hR : Hid (RoundC n p ↔ ((bendI n p).left = n ∨ (bendI n p).right = n) ∧ grownI (areaI n p) (borderI n p) (-1) = 1 ∧ whereI n p (0, 0) = 1) := Lib.hid Iff.rfl
  clear hs hc
  generalize (bendI n p).left = L at *
  generalize (bendI n p).right = R at *
  generalize grownI (areaI n p) (borderI n p) (-1) = I at *
  generalize whereI n p (0, 0) = V at *
  go_enter Try.func50, Try.ntmps50
  go_wp2_with (first
    | (go_at_call 40; refine H.out.mono ?_; rintro e w1 ⟨rfl, hb1⟩)
    | (go_at_call 43; refine (HI.out _ hb1).mono ?_; rintro e w2 ⟨rfl, hb2⟩; replace hb1 := nextB hb1 hb2; clear hb2)
    | (go_at_call 48; refine (HW.out _ hb1).mono ?_; rintro e w3 ⟨rfl, hb3⟩; replace hb1 := nextB hb1 hb3; clear hb3))
  all_goals
    go_ret
    refine Ret.mk (ret_dec ?_) hb1
    have h := hR.out
    simp only [beq_iff_eq, Bool.false_eq_true, false_iff]
    rw [h]
    omega
end Go.Proofs.Ytnjegnlfdbbleaa
