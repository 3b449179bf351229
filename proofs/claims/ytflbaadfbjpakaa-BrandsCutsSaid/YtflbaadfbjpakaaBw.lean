/- Layer 2: pairs put in order. -/
import Derived.Test.YtflbaadfbjpakaaBv
namespace Go.Proofs.Ytflbaadfbjpakaa
open Go Go.RowKit

/-- A pair put in its place. -/
def putL (L : List (Int × Int)) (x : Int × Int) : List (Int × Int) := L.takeWhile (fun y => decide (LexP y x)) ++ x :: L.dropWhile (fun y => decide (LexP y x))
def sortL (L : List (Int × Int)) : List (Int × Int) := L.foldl putL []
theorem putL_perm (L : List (Int × Int)) (x : Int × Int) : (putL L x).Perm (x :: L) := by
  unfold putL
  refine List.perm_middle.trans ?_
  rw [List.takeWhile_append_dropWhile]
theorem mem_takeW {L : List (Int × Int)} {x y : Int × Int} (h : y ∈ L.takeWhile (fun y => decide (LexP y x))) : LexP y x := by
  induction L with
  | nil => simp at h
  | cons z L ih =>
    rw [List.takeWhile_cons] at h
    split at h
    · rename_i hz
      rcases List.mem_cons.1 h with rfl | h
      · exact of_decide_eq_true hz
      · exact ih h
    · simp at h
theorem putL_sorted {L : List (Int × Int)} (h : L.Pairwise LeP) (x : Int × Int) : (putL L x).Pairwise LeP := by
  unfold putL
  rw [List.pairwise_append]
  have hd : ∀ y ∈ L.dropWhile (fun y => decide (LexP y x)), LeP x y := by
    induction L with
    | nil => intro y hy; simp at hy
    | cons z L ih =>
      intro y hy
      rw [List.dropWhile_cons] at hy
      rw [List.pairwise_cons] at h
      split at hy
      · exact ih h.2 y hy
      · rename_i hz
        have hxz : LeP x z := by simpa [LeP] using hz
        rcases List.mem_cons.1 hy with rfl | hy
        · exact hxz
        · exact hxz.trans (h.1 y hy)
  refine ⟨h.sublist (List.takeWhile_sublist _), ?_, ?_⟩
  · rw [List.pairwise_cons]
    exact ⟨hd, h.sublist (List.dropWhile_sublist _)⟩
  · intro a ha b hb
    have h1 := (mem_takeW ha).le
    rcases List.mem_cons.1 hb with rfl | hb
    · exact h1
    · exact h1.trans (hd b hb)
theorem sort_go (L : List (Int × Int)) : ∀ A : List (Int × Int), A.Pairwise LeP → (L.foldl putL A).Pairwise LeP ∧ (L.foldl putL A).Perm (A ++ L) := by
  induction L with
  | nil => intro A h; exact ⟨h, by simp⟩
  | cons x L ih =>
    intro A h
    obtain ⟨h1, h2⟩ := ih (putL A x) (putL_sorted h x)
    refine ⟨h1, h2.trans ?_⟩
    refine ((putL_perm A x).append_right L).trans ?_
    rw [List.cons_append]
    exact List.perm_middle.symm
theorem sortL_sorted (L : List (Int × Int)) : SortedP (sortL L) := sortedP_pair.2 (sort_go L [] List.Pairwise.nil).1
theorem sortL_perm (L : List (Int × Int)) : (sortL L).Perm L := by have h := (sort_go L [] List.Pairwise.nil).2; rw [List.nil_append] at h; exact h
theorem sortL_one {L M : List (Int × Int)} (h : M.Perm L) (hM : SortedP M) : M = sortL L := sorted_one hM (sortL_sorted L) (h.trans (sortL_perm L).symm)
theorem sortL_length (L : List (Int × Int)) : (sortL L).length = L.length := (sortL_perm L).length_eq
set_option maxRecDepth 100000 in
set_option maxHeartbeats 1600000 in
theorem sorted_any (b n c : Nat) (ps : List Part) (w : World) (hn : ps.length = n) (h60 : n ≤ 1000) (hsum : (allP ps).length ≤ 12)
    (hc : ∀ i, i < n → w.cell? ⟨b, i, none⟩ = some (.slice (pat ps i).a (pat ps i).n (pat ps i).c)) (hok : ∀ i, i < n → PartOk w (pat ps i)) :
    Calls Try.prog 69 #[cmpV, .slice (some ⟨b, 0, none⟩) n c] w fun e w' => ∃ a cap, e = .returned (.slice a (allP ps).length cap) ∧
      w'.ownsRow w.heap.size 60 2 (.slice a (allP ps).length cap) (allP ps).length (cP (sortL (allP ps))) ∧ Prs w' a (sortL (allP ps)) ∧ (allP ps).length ≤ cap ∧ Below w.heap.size w w' := by
  have K := Lib.hid (concat_any b n c ps w hn h60 (by omega) hc hok)
  have S := Lib.hid (fun base a cap W h => sortFunc_any base a (allP ps).length cap (allP ps) W rfl hsum h)
  clear hc hok hn
  go_enter Try.func69, Try.ntmps69
  go_wp2_with (first
    | (go_at_call 83; refine K.out.mono ?_; rintro e w1 ⟨v, rfl, hown, B0⟩; have hown' := Lib.hid hown; obtain ⟨a1, c1, rfl, hc1, hp1⟩ := own_prs hown)
    | (go_at_call 84; refine (S.out _ _ _ _ hown'.out).mono ?_; rintro e w2 ⟨rfl, M, hM1, hM2, hown2, hb2⟩; have hM := Lib.hid (sortL_one hM1 hM2)))
  go_ret
  rw [hM.out] at hown2
  have hb3 := B0.trans hb2
  refine ⟨a1, c1, rfl, hown2, ?_, hc1, hb3⟩
  have hl := sortL_length (allP ps)
  rw [← hl] at hown2
  obtain ⟨a2, c2, e, _, hp⟩ := own_prs hown2
  cases e
  exact hp
end Go.Proofs.Ytflbaadfbjpakaa
