/- Layer 2: lines but one, by the specification. -/
import Derived.Test.YtflbaadfbjpakaaFa
namespace Go.Proofs.Ytflbaadfbjpakaa
open Go Go.RowKit

set_option maxRecDepth 100000 in
set_option maxHeartbeats 4000000 in
theorem refWithout_any (b off m c : Nat) (L : List (Int × Int)) (i : Nat) (w : World) (hc : ∀ i, i < m → w.cell? ⟨b, off + i * 2, none⟩ = some (.int .i64 (pth L i).1) ∧ w.cell? ⟨b, off + i * 2 + 1, none⟩ = some (.int .i64 (pth L i).2)) (hl : L.length = m) (hcap : m ≤ c) (hi : i < m) (hm : m ≤ 60) :
    Calls Try.prog 71 #[.slice (some ⟨b, off, none⟩) m c, .int .i64 i] w fun e w' => ∃ v, e = .returned v ∧
      w'.ownsRow w.heap.size 60 2 v (m - 1) (cP (L.take i ++ L.drop (i + 1))) ∧ Below w.heap.size w w' := by
  obtain ⟨i0, hi0, hz0, hz1, hz2⟩ := info_parts infoPair
  have G0 := Lib.hid hi0
  have G1 := Lib.hid hz0
  have G2 := Lib.hid hz1
  have G3 := Lib.hid hz2
  clear hi0 hz0 hz1 hz2
  have hbw : b < w.heap.size := block_lt_of_cell (hc i hi).1
  have s1 := Lib.hid (part_src (src_take (w := w) hc hl (show i ≤ m by omega)) rfl)
  have s3 : Hid (∀ j u, (cP (L.drop (i + 1)))[j]? = some u → w.cell? ⟨b, off + (i + 1) * 2 + j, none⟩ = some u) := Lib.hid fun j u hj => by
    have := part_src (src_drop (w := w) hc hl (show i + 1 ≤ m by omega)) rfl j u hj
    rwa [show Addr.add ⟨b, off + (i + 1) * 2, none⟩ j = ⟨b, off + (i + 1) * 2 + j, none⟩ by simp [Addr.add]] at this
  have hone1 := Lib.hid (cP_one (L.take i))
  have hone2 := Lib.hid (cP_one (L.drop (i + 1)))
  have hc1 := Lib.hid (show (cP (L.take i)).length = i * 2 by rw [cP_length, List.length_take, hl, Nat.min_eq_left (by omega)])
  have hc2 := Lib.hid (show (cP (L.drop (i + 1))).length = (m - (i + 1)) * 2 by rw [cP_length, List.length_drop, hl])
  have he : Hid (cP (L.take i) ++ cP (L.drop (i + 1)) = cP (L.take i ++ L.drop (i + 1))) := Lib.hid (cP_append _ _).symm
  have hdn : Hid (m = i + 1 → cP (L.drop (i + 1)) = []) := Lib.hid fun e => by rw [List.drop_of_length_le (by omega)]; rfl
  have k1 : (i : Int) + 1 ≤ (m : Int) := by omega
  have k3 : ((i : Int) + 1).toNat = i + 1 := by omega
  have k4 : i ≤ c := by omega
  have k5 : i + 1 ≤ c := by omega
  clear hl hc
  by_cases hcm : i + 1 < c
  · go_enter Try.func71, Try.ntmps71
    go_wp2_with (first
      | (at_builtin; refine wpList_append_own w rfl _ _ 22 rfl w.heap.size 60 i0 (.agg #[.int .i64 0, .int .i64 0]) 2 16 Try.underlying22 G0.out G1.out G2.out G3.out rfl (by decide) _ _ _ rfl (World.ownsRow_nil _ _ _ _) ⟨b, off, none⟩ i c (cP (L.take i)) rfl hc1.out s1.out hone1.out (by unfold maxLen; omega) (by omega) (Nat.le_refl _) ?_; intro v2 w2 hown2 hgrow2 _; change w.grownBy w2 none at hgrow2; have s4 : Hid (∀ j u, (cP (L.drop (i + 1)))[j]? = some u → w2.cell? (Addr.add ⟨b, off + (i + 1) * 2, none⟩ j) = some u) := Lib.hid fun j u hj => by (rw [show Addr.add ⟨b, off + (i + 1) * 2, none⟩ j = ⟨b, off + (i + 1) * 2 + j, none⟩ by simp [Addr.add]]; exact hgrow2.cell (s3.out j u hj) (by simp)))
      | (at_builtin; refine wpList_append_own w2 rfl _ _ 22 rfl w.heap.size 60 i0 (.agg #[.int .i64 0, .int .i64 0]) 2 16 Try.underlying22 G0.out G1.out G2.out G3.out rfl (by decide) _ _ _ rfl hown2 ⟨b, off + (i + 1) * 2, none⟩ (m - (i + 1)) (c - (i + 1)) (cP (L.drop (i + 1))) rfl hc2.out s4.out hone2.out (by unfold maxLen; omega) (by omega) (by have := hgrow2.size; omega) ?_; intro v4 w4 hown4 hgrow4 _))
    change w2.grownBy w4 v2.ownBlock at hgrow4
    go_ret
    have B2 := (Below.refl w.heap.size w).grown hgrow2 (Nat.le_refl _) (fun k hk => by cases hk)
    have B4 := B2.grown hgrow4 B2.size (fun k hk => (hown2.lt k hk).1)
    refine ⟨_, rfl, ?_, B4⟩
    rw [List.nil_append, he.out, show 0 + i + (m - (i + 1)) = m - 1 by omega] at hown4
    exact hown4
  · obtain rfl : c = i + 1 := by omega
    obtain rfl : m = i + 1 := by omega
    go_enter Try.func71, Try.ntmps71
    go_wp2_with (first
      | (at_builtin; refine wpList_append_own w rfl _ _ 22 rfl w.heap.size 60 i0 (.agg #[.int .i64 0, .int .i64 0]) 2 16 Try.underlying22 G0.out G1.out G2.out G3.out rfl (by decide) _ _ _ rfl (World.ownsRow_nil _ _ _ _) ⟨b, off, none⟩ i (i + 1) (cP (L.take i)) rfl hc1.out s1.out hone1.out (by unfold maxLen; omega) (by omega) (Nat.le_refl _) ?_; intro v2 w2 hown2 hgrow2 _; change w.grownBy w2 none at hgrow2)
      | (at_builtin; refine wpList_append_own w2 rfl _ _ 22 rfl w.heap.size 60 i0 (.agg #[.int .i64 0, .int .i64 0]) 2 16 Try.underlying22 G0.out G1.out G2.out G3.out rfl (by decide) _ _ _ rfl hown2 ⟨b, off, none⟩ 0 0 [] rfl rfl (fun j u hj => by simp at hj) (fun u hu => by simp at hu) (by unfold maxLen; omega) (by omega) (by have := hgrow2.size; omega) ?_; intro v4 w4 hown4 hgrow4 _))
    change w2.grownBy w4 v2.ownBlock at hgrow4
    go_ret
    have B2 := (Below.refl w.heap.size w).grown hgrow2 (Nat.le_refl _) (fun k hk => by cases hk)
    have B4 := B2.grown hgrow4 B2.size (fun k hk => (hown2.lt k hk).1)
    refine ⟨_, rfl, ?_, B4⟩
    have he' := he.out
    rw [hdn.out trivial] at he'
    rw [List.nil_append, he', show 0 + i + 0 = i + 1 - 1 by omega] at hown4
    exact hown4
end Go.Proofs.Ytflbaadfbjpakaa
