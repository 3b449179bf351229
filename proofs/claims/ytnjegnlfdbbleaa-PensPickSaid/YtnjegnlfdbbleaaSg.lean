/- Layer 1: the smallest triangle, split. -/
import Derived.Test.YtnjegnlfdbbleaaSf
import Derived.Test.YtnjegnlfdbbleaaKb
namespace Go.Proofs.Ytnjegnlfdbbleaa
open Go Go.RowKit Go.Shelf

/-- The triangle (0, 0), (1, 0), (0, 1). -/
def triP (i : Nat) : Int × Int := if i = 0 then (0, 0) else if i = 1 then (1, 0) else (0, 1)
theorem triP_sm : ∀ i, i < 3 → Sm 50 (triP i) := by
  intro i hi
  have : i = 0 ∨ i = 1 ∨ i = 2 := by omega
  rcases this with rfl | rfl | rfl <;> decide
theorem triP_pts {qs : List (Int × Int)} (h : PtsOk 3 triP qs) : ∀ s ∈ qs, Sm 1048576 s ∧ ¬ OtherP (triP 2) (triP 0) (triP 1) s := by
  rintro ⟨x, y⟩ hs
  obtain ⟨h1, h2, h3, h4, h5⟩ := h _ hs
  have e1 : loF triP 3 = (0, 0) := by decide
  have e2 : hiF triP 3 = (1, 1) := by decide
  rw [e1] at h1 h3
  rw [e2] at h2 h4
  dsimp only at h1 h2 h3 h4
  have hx : x = 0 ∨ x = 1 := by omega
  have hy : y = 0 ∨ y = 1 := by omega
  rcases hx with rfl | rfl <;> rcases hy with rfl | rfl
  · exact ⟨by decide, by decide⟩
  · exact ⟨by decide, by decide⟩
  · exact ⟨by decide, by decide⟩
  · exact absurd h5 (by decide)

set_option maxRecDepth 100000 in
set_option maxHeartbeats 1600000 in
theorem split_tri (b off c : Nat) (w : World)
    (hc : ∀ i, i < 3 → w.cell? ⟨b, off + i * 2, none⟩ = some (.int .i64 (triP i).1) ∧ w.cell? ⟨b, off + i * 2 + 1, none⟩ = some (.int .i64 (triP i).2)) :
    Calls Try.prog 56 #[.slice (some ⟨b, off, none⟩) (3 : Nat) c] w fun e w' => Below w.heap.size w w' ∧ ∃ g cap, e = .returned (.slice (some ⟨g, 0, none⟩) 1 cap) ∧ Box6 w' g (triP 2) (triP 0) (triP 1) := by
  have H := Lib.hid (leftwards_left b off 3 c triP w (by omega) (by omega) triP_sm (by decide) hc)
  have hc := Lib.hid hc
  go_enter Try.func56, Try.ntmps56
  go_wp2_with fail
  refine H.out.mono ?_
  rintro e w1 ⟨hb1, g1, c1, rfl, hc1⟩
  dsimp only
  go_wp2_with fail
  refine (ears_three g1 0 c1 triP w1 hc1).mono ?_
  rintro e w2 ⟨hb2, g2, c2, rfl, hown2⟩
  dsimp only
  have T2 := owns_six hown2
  have hc2 := pts_next (nextB hb1 hb2) hc.out
  have hB2 := nextB hb1 hb2
  clear hb1 hb2 hc1 hown2 H hc
  go_wp2_with fail
  refine (points_any b off 3 c triP w2 (by omega) (by omega) triP_sm hc2).mono ?_
  rintro e w3 ⟨hb3, x3, c3, qs, rfl, hp3, hok, hl⟩
  dsimp only
  have T3 := T2.next hb3
  have hok' := triP_pts hok
  have hB3 := nextB hB2 hb3
  clear hc2 hb3 hB2 hok T2
  go_wp2_with fail
  refine (smaller_one g2 c2 (triP 2) (triP 0) (triP 1) x3 qs.length c3 (fun i => qs.getD i (0, 0)) w3 (by decide) (by decide) (by decide) (by omega) hp3 (fun i hi => ?_) (fun i hi => ?_) T3).mono ?_
  · simp only [List.getD_eq_getElem?_getD, List.getElem?_eq_getElem hi, Option.getD_some]
    exact (hok' _ (List.getElem_mem hi)).1
  · simp only [List.getD_eq_getElem?_getD, List.getElem?_eq_getElem hi, Option.getD_some]
    exact (hok' _ (List.getElem_mem hi)).2
  · rintro e w4 ⟨hb4, g4, c4, rfl, T4⟩
    dsimp only
    clear hok' hp3 T3
    go_wp2
    go_ret
    exact ⟨nextB hB3 hb4, g4, c4, rfl, T4⟩
end Go.Proofs.Ytnjegnlfdbbleaa
