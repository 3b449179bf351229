/- Layer 5: what every right program knows of a few beasts. -/
import Derived.Test.YtfdaljekehkkaaaGreatDoorHa
import Derived.Test.YtfdaljekehkkaaaGreatDoorHb
namespace Go.Proofs.YtfdaljekehkkaaaGreatDoor
open Go Go.RowKit

instance (a b : Nat) : Decidable (Behind a b) := by unfold Behind; infer_instance
def abc : Tr := .fam [.fam [.leaf 0, .leaf 1], .leaf 2]
def abcd : Tr := .fam [.fam [.fam [.leaf 0, .leaf 1], .leaf 2], .leaf 3]
def L4 : List T3 := [(0, 1, 2), (1, 2, 3)]
def L7 : List T3 := [(0, 1, 2), (1, 2, 0)]
theorem parts_eq {l : List T3} {s : Nat} {ps : List Nat} (hp : ps.Perm (joinP l s)) (hs : ps.Pairwise (fun a b => a ≤ b)) : partsL l s = ps := sortN_one hp hs
theorem sort_two {a b : Tr} (h : lowB a.set < lowB b.set) : sortT [a, b] = [a, b] :=
  sort_one (List.Perm.refl _) (by simp; omega) (by simp; omega)
theorem join_two {a b : Tr} (h : lowB a.set < lowB b.set) : joinT [a, b] = .fam [a, b] := by
  show Tr.fam (sortT [a, b]) = _
  rw [sort_two h]
theorem p15 : partsL L4 15 = [7, 8] := parts_eq (by decide) (by decide)
theorem p7 : partsL L4 7 = [3, 4] := parts_eq (by decide) (by decide)
theorem p3 : partsL L4 3 = [1, 2] := parts_eq (by decide) (by decide)
theorem build_leaf (l : List T3) (f s : Nat) (h : cntF s 9 = 1) : buildT l (f + 1) s = some (.leaf (lowB s)) := by rw [buildT, if_pos h]
theorem build_two (l : List T3) (f s p q : Nat) (t u : Tr) (h : cntF s 9 ≠ 1) (hp : partsL l s = [p, q]) (ht : buildT l f p = some t) (hu : buildT l f q = some u) (hl : lowB t.set < lowB u.set) : buildT l (f + 1) s = some (.fam [t, u]) := by
  rw [buildT, if_neg h, hp, if_neg (by simp)]
  simp only [allO, ht, hu, Option.map_some, join_two hl]
theorem b15 : bldT 4 L4 = some abcd := by
  show buildT L4 (299 + 1) 15 = _
  refine build_two L4 _ 15 7 8 abc (.leaf 3) (by decide) p15 ?_ (build_leaf L4 298 8 (by decide)) (by decide)
  refine build_two L4 298 7 3 4 (.fam [.leaf 0, .leaf 1]) (.leaf 2) (by decide) p7 ?_ (build_leaf L4 297 4 (by decide)) (by decide)
  exact build_two L4 297 3 1 2 (.leaf 0) (.leaf 1) (by decide) p3 (build_leaf L4 296 1 (by decide)) (build_leaf L4 296 2 (by decide)) (by decide)
theorem bldE4 : bldE 4 L4 = ([40, 40, 40, 48, 44, 49, 41, 44, 50, 41, 44, 51, 41], 0) := by
  unfold bldE
  rw [if_pos (by decide)]
  rw [show (4 : Int).toNat = 4 from rfl, b15]
  rfl
theorem knt_join (L : List T3) (s : Nat) : kntB L s = (decide (3 ≤ cntF s 9) && decide ((joinP L s).length = 1)) := by
  unfold kntB partsL sortN
  rw [List.length_mergeSort]
theorem kntE7 : kntE 3 L7 = (7, 0) := by
  unfold kntE
  rw [if_pos (by decide)]
  have : FirstN (kntB L7) (pw (3 : Int).toNat) = some 7 := by
    refine firstN_some (by decide) (by rw [knt_join]; decide) fun j hj => ?_
    have h : j = 0 ∨ j = 1 ∨ j = 2 ∨ j = 3 ∨ j = 4 ∨ j = 5 ∨ j = 6 := by omega
    rcases h with rfl | rfl | rfl | rfl | rfl | rfl | rfl <;> (rw [knt_join]; decide)
  rw [this]
  rfl
theorem cntE5 : cntE 5 = (236, 0) := by decide
theorem good_abcd : IsTr 4 [40, 40, 40, 48, 44, 49, 41, 44, 50, 41, 44, 51, 41] abcd :=
  ⟨by simp only [abcd, Good, GoodL, List.map_cons, List.map_nil, Tr.set, setL]; decide, rfl, by decide⟩
theorem good_abc : IsTr 3 [40, 40, 48, 44, 49, 41, 44, 50, 41] abc :=
  ⟨by simp only [abc, Good, GoodL, List.map_cons, List.map_nil, Tr.set, setL]; decide, rfl, by decide⟩
theorem kepE13 : kepE 4 [40, 40, 40, 48, 44, 49, 41, 44, 50, 41, 44, 51, 41] 13 = ([40, 40, 48, 44, 50, 41, 44, 51, 41], 0) := by
  unfold kepE
  rw [if_neg (by decide)]
  rw [show (4 : Int).toNat = 4 from rfl, show (13 : Int).toNat = 13 from rfl, trO_yes good_abcd]
  have e : keepT 13 abcd = .fam [.fam [.leaf 0, .leaf 2], .leaf 3] := by
    have e1 : keepT 13 (.fam [.leaf 0, .leaf 1]) = .leaf 0 := rfl
    have e2 : keepT 13 (.fam [.fam [.leaf 0, .leaf 1], .leaf 2]) = .fam [.leaf 0, .leaf 2] := by
      show joinT [keepT 13 (.fam [.leaf 0, .leaf 1]), .leaf 2] = _
      rw [e1]
      exact join_two (by decide)
    show joinT [keepT 13 (.fam [.fam [.leaf 0, .leaf 1], .leaf 2]), .leaf 3] = _
    rw [e2]
    exact join_two (by decide)
  dsimp only
  rw [e, if_pos (by decide)]
  rfl
theorem famE3 : famE 3 [40, 40, 48, 44, 49, 41, 44, 50, 41] 0 1 = (3, 0) := by
  unfold famE
  rw [if_neg (by decide)]
  rw [show (3 : Int).toNat = 3 from rfl, trO_yes good_abc]
  rfl
theorem trips_two (W : World) (b : Nat) (x0 x1 x2 y0 y1 y2 : Int) (hB : Blk W b 36 #[.int .i64 x0, .int .i64 x1, .int .i64 x2, .int .i64 y0, .int .i64 y1, .int .i64 y2]) : Trips W (some ⟨b, 0, none⟩) [(x0, x1, x2), (y0, y1, y2)] := by
  refine .inr ⟨b, 0, rfl, fun i hi => ?_⟩
  have h : i = 0 ∨ i = 1 := by simp at hi; omega
  rcases h with rfl | rfl
  · exact ⟨hB.c 0 rfl, hB.c 1 rfl, hB.c 2 rfl⟩
  · exact ⟨hB.c 3 rfl, hB.c 4 rfl, hB.c 5 rfl⟩
set_option maxRecDepth 100000 in
set_option maxHeartbeats 1000000 in
theorem alive_any (w : World) (hT : Tab w) : Calls Tryz.prog 6 #[] w (Ret (.bool true) w) := by
  have B := Lib.hid (fun W b (hB : Blk W b 36 #[.int .i64 0, .int .i64 1, .int .i64 2, .int .i64 1, .int .i64 2, .int .i64 3]) (hW : Tab W) =>
    show Calls Tryz.prog 11 #[.int .i64 4, .slice (some ⟨b, 0, none⟩) 2 2] W (Ret (.tuple #[.string ⟨#[40, 40, 40, 48, 44, 49, 41, 44, 50, 41, 44, 51, 41]⟩, .int .i64 0]) W) from by
      have := Build_any 4 (some ⟨b, 0, none⟩) 2 2 L4 W (trips_two W b _ _ _ _ _ _ hB) rfl (by omega) hW
      rw [bldE4] at this
      exact this)
  have K := Lib.hid (fun W b (hB : Blk W b 36 #[.int .i64 0, .int .i64 1, .int .i64 2, .int .i64 1, .int .i64 2, .int .i64 0]) (hW : Tab W) =>
    show Calls Tryz.prog 15 #[.int .i64 3, .slice (some ⟨b, 0, none⟩) 2 2] W (Ret (.tuple #[.int .i64 7, .int .i64 0]) W) from by
      have := Knot_any 3 (some ⟨b, 0, none⟩) 2 2 L7 W (trips_two W b _ _ _ _ _ _ hB) rfl (by omega) hW
      rw [kntE7] at this
      exact this)
  have C := Lib.hid (fun W => show Calls Tryz.prog 16 #[.int .i64 5] W (Ret (.tuple #[.int .i64 236, .int .i64 0]) W) from by
    have := Count_any 5 W
    rw [cntE5] at this
    exact this)
  have P := Lib.hid (fun W (hW : Tab W) => show Calls Tryz.prog 17 #[.int .i64 4, .string ⟨#[40, 40, 40, 48, 44, 49, 41, 44, 50, 41, 44, 51, 41]⟩, .int .i64 13] W (Ret (.tuple #[.string ⟨#[40, 40, 48, 44, 50, 41, 44, 51, 41]⟩, .int .i64 0]) W) from by
    have := Kept_any 4 [40, 40, 40, 48, 44, 49, 41, 44, 50, 41, 44, 51, 41] 13 W hW
    rw [kepE13] at this
    exact this)
  have F := Lib.hid (fun W (hW : Tab W) => show Calls Tryz.prog 18 #[.int .i64 3, .string ⟨#[40, 40, 48, 44, 49, 41, 44, 50, 41]⟩, .int .i64 0, .int .i64 1] W (Ret (.tuple #[.int .i64 3, .int .i64 0]) W) from by
    have := Family_any 3 [40, 40, 48, 44, 49, 41, 44, 50, 41] 0 1 W hW
    rw [famE3] at this
    exact this)
  replace hT := Lib.hid hT
  go_enter Tryz.func6, Tryz.ntmps6
  go_wp2_with fail
  have ba := b1 w (.cells #[.int .i64 0, .int .i64 1, .int .i64 2, .int .i64 1, .int .i64 2, .int .i64 3] 36)
  refine (B.out _ _ (Blk.new w 36 _) (hT.out.next ba)).mono ?_
  rintro e w1 ⟨rfl, hb1⟩
  replace hb1 := nextB ba hb1
  clear ba
  go_wp2_with fail
  have bk := nextB hb1 (b1 w1 (.cells #[.int .i64 0, .int .i64 1, .int .i64 2, .int .i64 1, .int .i64 2, .int .i64 0] 36))
  refine (K.out _ _ (Blk.new w1 36 _) (hT.out.next bk)).mono ?_
  rintro e w2 ⟨rfl, hb2⟩
  replace hb2 := nextB bk hb2
  clear bk
  go_wp2_with (first
    | (go_at_call 16; refine (C.out _).mono ?_; rintro e w3 ⟨rfl, hb3⟩; replace hb3 := nextB hb2 hb3)
    | (go_at_call 17; refine (P.out _ (hT.out.next hb3)).mono ?_; rintro e w4 ⟨rfl, hb4⟩; replace hb4 := nextB hb3 hb4)
    | (go_at_call 18; refine (F.out _ (hT.out.next hb4)).mono ?_; rintro e w5 ⟨rfl, hb5⟩; replace hb5 := nextB hb4 hb5))
  go_ret
  exact Ret.mk (by first | rfl | decide) hb5
end Go.Proofs.YtfdaljekehkkaaaGreatDoor
