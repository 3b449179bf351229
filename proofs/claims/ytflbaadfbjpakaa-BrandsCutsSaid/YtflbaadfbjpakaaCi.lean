/- Layer 2: what every right program knows of a square and of a pentagon. -/
import Derived.Test.YtflbaadfbjpakaaCh
namespace Go.Proofs.Ytflbaadfbjpakaa
open Go Go.RowKit

theorem sq_brand : BrandP (4 : Nat) [(0, 2)] := by decide
theorem sq_round : roundL 4 [(0, 2)] = [2, 1, 2, 1] := by decide
theorem pent_round : RoundP [1, 3, 1, 2, 2] := by decide
theorem pent_of : ofL [1, 3, 1, 2, 2] = some [(1, 3), (1, 4)] := by decide +kernel
theorem sq_flip : flipL 4 [(0, 2)] 0 = [(1, 3)] := by decide +kernel
theorem sq_tips : 2 ≤ (tipsL 4 [(0, 2)] (pth [(0, 2)] 0)).length := by decide
theorem sq_tris : (tris 4 [(0, 2)]).length ≤ 20 := by decide
theorem sq_choices : choF (tris 4 [(0, 2)]) (btw 4 1 3) 0 = 2 := by decide +kernel
theorem prs_new (w : World) (t : TypeId) (L : List (Int × Int)) (cs : Array Value) (h : cs.toList = cP L) : Prs (w.alloc (.cells cs t)) (some ⟨w.heap.size, 0, none⟩) L := by
  refine .inr ⟨_, 0, rfl, fun i hi => ?_⟩
  obtain ⟨h1, h2⟩ := cP_at L i hi
  rw [← h, Array.getElem?_toList] at h1 h2
  have hb := Blk.new w t cs
  exact ⟨by rw [Nat.zero_add]; exact hb.c _ h1, by rw [Nat.zero_add]; exact hb.c _ h2⟩
theorem ints_new (w : World) (t : TypeId) (xs : List Int) (cs : Array Value) (h : cs.toList = lI xs) : Ints (w.alloc (.cells cs t)) (some ⟨w.heap.size, 0, none⟩) xs := by
  refine .inr ⟨_, 0, rfl, fun i hi => ?_⟩
  have h1 := lI_get hi
  rw [← h, Array.getElem?_toList] at h1
  rw [Nat.zero_add]
  exact (Blk.new w t cs).c _ h1
theorem blk_ints {w : World} {g : Nat} {t : TypeId} {xs : List Int} (h : Blk w g t (cI xs)) : Ints w (some ⟨g, 0, none⟩) xs := .inr ⟨g, 0, rfl, fun i hi => by rw [Nat.zero_add]; exact h.i i hi⟩

set_option maxRecDepth 100000 in
set_option maxHeartbeats 4000000 in
theorem alive_any (w : World) : Calls Try.prog 17 #[] w (Ret (.bool true) w) := by
  go_enter Try.func17, Try.ntmps17
  go_wp2_with fail
  have HP := prs_new w 60 [(0, 2)] #[.int .i64 0, .int .i64 2] rfl
  refine calls_at (F := fun W => Below w.heap.size w W ∧ Prs W (some ⟨w.heap.size, 0, none⟩) [(0, 2)]) ⟨b1 _ _, HP⟩ ?_
  clear HP
  rintro W ⟨B, HP⟩
  refine (Round_yes 4 _ 1 1 [(0, 2)] W HP rfl (by omega) sq_brand).mono ?_
  rintro e w1 ⟨g1, rfl, hr, hg1, hb1⟩
  rw [sq_round] at hr
  replace hr := blk_ints hr
  replace B := nextB B hb1
  clear HP hb1 hg1
  dsimp only
  go_wp2_with fail
  have HI := ints_new w1 3 [1, 3, 1, 2, 2] #[.int .i64 1, .int .i64 3, .int .i64 1, .int .i64 2, .int .i64 2] rfl
  refine calls_at (F := fun W => Below w1.heap.size w1 W ∧ Ints W (some ⟨w1.heap.size, 0, none⟩) [1, 3, 1, 2, 2]) ⟨b1 _ _, HI⟩ ?_
  clear HI
  rintro W2 ⟨C, HI⟩
  refine (Of_yes _ 5 5 [1, 3, 1, 2, 2] W2 HI rfl pent_round).mono ?_
  rintro e w2 ⟨hb2, ⟨ho, _⟩ | ⟨M, a2, c2, ho, rfl, hp2, hc2, _⟩⟩
  · rw [pent_of] at ho; cases ho
  rw [pent_of] at ho
  cases ho
  replace B := nextB B (nextB C hb2)
  replace hr := (hr.next C).next hb2
  clear HI C hb2
  dsimp only
  go_wp2_with fail
  have HP := prs_new w2 60 [(0, 2)] #[.int .i64 0, .int .i64 2] rfl
  refine calls_at (F := fun W => Below w2.heap.size w2 W ∧ Prs W (some ⟨w2.heap.size, 0, none⟩) [(0, 2)]) ⟨b1 _ _, HP⟩ ?_
  clear HP
  rintro W3 ⟨C, HP⟩
  refine (Flip_yes 4 _ 1 1 [(0, 2)] 0 W3 HP rfl (by omega) sq_brand (by omega) sq_tips).mono ?_
  rintro e w3 ⟨a3, c3, rfl, hp3, hc3, hb3⟩
  rw [sq_flip] at hp3
  replace B := nextB B (nextB C hb3)
  replace hr := (hr.next C).next hb3
  replace hp2 := (hp2.next C).next hb3
  clear HP C hb3
  dsimp only
  go_wp2_with fail
  refine (Count_in 6 _ (by omega) (by omega)).mono ?_
  rintro e w4 ⟨rfl, rfl⟩
  rw [show catT (6 - 2) = 14 from rfl]
  dsimp only
  go_wp2_with fail
  have HP := prs_new w3 60 [(0, 2)] #[.int .i64 0, .int .i64 2] rfl
  refine calls_at (F := fun W => Below w3.heap.size w3 W ∧ Prs W (some ⟨w3.heap.size, 0, none⟩) [(0, 2)]) ⟨b1 _ _, HP⟩ ?_
  clear HP
  rintro W5 ⟨C, HP⟩
  refine (Choices_yes 4 1 3 _ 1 1 [(0, 2)] W5 HP rfl (by omega) sq_brand (by omega) (by omega) (by omega) sq_tris).mono ?_
  rintro e w5 ⟨rfl, hb5⟩
  rw [sq_choices]
  replace B := nextB B (nextB C hb5)
  replace hr := (hr.next C).next hb5
  replace hp2 := (hp2.next C).next hb5
  replace hp3 := (hp3.next C).next hb5
  clear HP C hb5
  dsimp only
  go_wp2_with fail
  have HI := ints_new w5 3 [2, 1, 2, 1] #[.int .i64 2, .int .i64 1, .int .i64 2, .int .i64 1] rfl
  refine calls_at (F := fun W => Below w5.heap.size w5 W ∧ Ints W (some ⟨w5.heap.size, 0, none⟩) [2, 1, 2, 1]) ⟨b1 _ _, HI⟩ ?_
  clear HI
  rintro W6 ⟨C, HI⟩
  have S := same_any _ _ 4 4 4 4 _ _ W6 (hr.next C) HI rfl rfl (by omega) (by omega)
  rw [decide_eq_true rfl] at S
  refine S.mono ?_
  rintro e w6 ⟨rfl, hb6⟩
  replace B := nextB B (nextB C hb6)
  replace hp2 := (hp2.next C).next hb6
  replace hp3 := (hp3.next C).next hb6
  clear HI C hb6 hr S
  dsimp only
  go_wp2_with fail
  have HP := prs_new w6 60 [(1, 3), (1, 4)] #[.int .i64 1, .int .i64 3, .int .i64 1, .int .i64 4] rfl
  refine calls_at (F := fun W => Below w6.heap.size w6 W ∧ Prs W (some ⟨w6.heap.size, 0, none⟩) [(1, 3), (1, 4)]) ⟨b1 _ _, HP⟩ ?_
  clear HP
  rintro W7 ⟨C, HP⟩
  have S := pairs_any _ _ 2 2 c2 2 _ _ W7 (hp2.next C) HP rfl rfl (by omega) (by omega)
  rw [decide_eq_true rfl] at S
  refine S.mono ?_
  rintro e w7 ⟨rfl, hb7⟩
  replace B := nextB B (nextB C hb7)
  replace hp3 := (hp3.next C).next hb7
  clear HP C hb7 hp2 S
  dsimp only
  go_wp2_with fail
  have HP := prs_new w7 60 [(1, 3)] #[.int .i64 1, .int .i64 3] rfl
  refine calls_at (F := fun W => Below w7.heap.size w7 W ∧ Prs W (some ⟨w7.heap.size, 0, none⟩) [(1, 3)]) ⟨b1 _ _, HP⟩ ?_
  clear HP
  rintro W8 ⟨C, HP⟩
  have S := pairs_any _ _ 1 1 c3 1 _ _ W8 (hp3.next C) HP rfl rfl (by omega) (by omega)
  rw [decide_eq_true rfl] at S
  refine S.mono ?_
  rintro e w8 ⟨rfl, hb8⟩
  replace B := nextB B (nextB C hb8)
  clear HP C hb8 hp3 S
  dsimp only
  go_wp2_with fail
  go_ret
  exact Ret.mk rfl B
end Go.Proofs.Ytflbaadfbjpakaa
