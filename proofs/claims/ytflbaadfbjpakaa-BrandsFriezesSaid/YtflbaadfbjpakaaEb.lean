/- Layer 2: the numbers from a corner on are put into the map. -/
import Derived.Test.YtflbaadfbjpakaaEa
namespace Go.Proofs.Ytflbaadfbjpakaa
open Go Go.RowKit

set_option maxRecDepth 100000 in
set_option maxHeartbeats 4000000 in
theorem addFrom_any (B c b off n cp i base : Nat) (f : Int → Int → Int) (xs : List Int) (w : World) (hN : NumMap w B c f) (hB : base ≤ B) (hbs : base ≤ w.heap.size) (hc : c ≤ 500) (hR : RoundP xs) (hn : xs.length = n) (hi : i < n)
    (hcell : ∀ k, k < n → w.cell? ⟨b, off + k, none⟩ = some (.int .i64 (nth xs k))) (hb : b < base) :
    Calls Try.prog 60 #[.map (some B), .slice (some ⟨b, off, none⟩) n cp, .int .i64 i] w
      (fun e w' => e = .returned (.tuple #[]) ∧ NumMap w' B (c + n + 1) (part f xs i n) ∧ Below base w w') := by
  have h3 := hR.1
  have h12 := hR.2.1
  have hbd := Lib.hid (tame_bd hR i)
  have hrb := Lib.hid hR.2.2
  have hone := Lib.hid (part_one f xs i)
  have hsucc := Lib.hid (fun d v => part_succ f xs i d v)
  have hat := Lib.hid (fun d (e : Nat) (h : e ≤ d) (b : Int) (hb : b = (i : Int) + e) => part_at f xs (i := i) h hb)
  have hed := Lib.hid (fun d (h : 1 ≤ d) => show eD xs i (d + 1) = nth xs ((i + d) % n) * eD xs i d - eD xs i (d - 1) by
    obtain ⟨e, rfl⟩ : ∃ e, d = e + 1 := ⟨d - 1, by omega⟩
    rw [eD, hn, Nat.add_sub_cancel, Nat.add_assoc])
  have hn12 : n ≤ 12 := by omega
  replace hcell := Lib.hid hcell
  replace hn := Lib.hid hn
  clear hR
  generalize eD xs i = g at *
  generalize part f xs i = pt at *
  go_enter Try.func60, Try.ntmps60
  go_wp2_with (first
    | (at_mapUpdate; refine wpList_num w rfl _ _ _ rfl B c f rfl hN (by omega) i i 0 rfl rfl (wf_bd (by omega) (by omega)) (wf_bd (by omega) (by omega)) (wf_bd (by omega) (by omega)) ?_; intro w1 hN1 hg1; clear hN)
    | (at_mapUpdate; refine wpList_num w1 rfl _ _ _ rfl B (c + 1) _ rfl hN1 (by omega) i ((i : Int) + 1) 1 rfl rfl (wf_bd (by omega) (by omega)) (wf_bd (by omega) (by omega)) (wf_bd (by omega) (by omega)) ?_; intro w2 hN2 hg2))
  have B1 := (Below.refl base w).grown hg1 hbs (fun k hk => by cases hk; exact hB)
  have B2 := B1.grown hg2 (Nat.le_trans hbs B1.size) (fun k hk => by cases hk; exact hB)
  rw [hone.out] at hN2
  clear hN1 hg1 hg2 B1
  go_loopw [7] (fun k wr => ∃ d : Nat, 1 ≤ d ∧ d ≤ n ∧ k = .int .i64 ((i : Int) + d) ∧ NumMap wr B (c + 1 + d) (pt d) ∧ Below base w wr) (fun k _ => i + n - (intOf k).toNat)
  case atStart => exact ⟨1, by omega, by omega, by simp, hN2, B2⟩
  case round =>
    clear hN2 B2
    obtain ⟨d, hd1, hd, rfl, hN, B0⟩ := hrel
    by_cases hlt : d < n
    · obtain ⟨m3, m4, m5⟩ := mod_at (i + d) n (by omega)
      rw [Int.natCast_add] at m3 m4 m5
      have hm : (i + d) % n < n := Nat.mod_lt _ (by omega)
      have x0 := cellX ((B0.cell (p := ⟨b, off + (i + d) % n, none⟩) hb).trans (hcell.out _ hm))
      have hy := hrb.out ((i + d) % n) (by rw [hn.out]; exact hm)
      have hg1 := hbd.out d (by omega)
      have hg0 := hbd.out (d - 1) (by omega)
      have hml := mul_tame hy.1 hy.2 hg1.1 hg1.2
      have hstep := Lib.hid (hed.out d hd1)
      have l1 := fun (x : Ext wr) => (hN.next x.ok).look (i := i) (k := (i : Int) + d) (wf_bd (by omega) (by omega)) (wf_bd (by omega) (by omega))
      have l0 := fun (x : Ext wr) => (hN.next x.ok).look (i := i) (k := (i : Int) + d - 1) (wf_bd (by omega) (by omega)) (wf_bd (by omega) (by omega))
      rw [hat.out d d (by omega) _ rfl] at l1
      rw [hat.out d (d - 1) (by omega) _ (by omega)] at l0
      generalize nth xs ((i + d) % n) = y at *
      generalize hgd : g (d - 1) = z at *
      clear hgd
      go_wp2
      refine wp_region_ext_tail 24 (by kernel_rfl) (by kernel_rfl) ?_
      simp only [List.take_succ_cons, List.take_zero, List.drop_succ_cons, List.drop_zero]
      repeat (go_big_quiet_step (fail))
      refine wpQuiet_nil ?_
      rintro ⟨w3, hw3⟩
      dsimp only
      have hN3 := hN.next hw3
      have B3 : Below base w w3 := B0.trans (hw3.mono (Nat.le_trans hbs B0.size))
      have hs3 := Lib.hid (hsucc.out d)
      clear x0 l0 l1 hw3
      go_wp2_with (at_mapUpdate; go_loud (refine wpList_num w3 rfl _ _ _ rfl B _ _ rfl hN3 (by omega) i ((i : Int) + d + 1) (y * g d - z) rfl rfl (wf_bd (by omega) (by omega)) (wf_bd (by omega) (by omega)) (wf_bd (by omega) (by omega)) ?_); intro w4 hN4 hg4)
      rw [hs3.out _ hstep.out.symm] at hN4
      have B4 := B3.grown hg4 (Nat.le_trans hbs B3.size) (fun k hk => by cases hk; exact hB)
      go_roundw
      case rel => exact ⟨d + 1, by omega, by omega, by go_num, hN4, B4⟩
      case measure => simp [intOf]; omega
    · obtain rfl : d = n := by omega
      go_wp2
      go_end0
      exact ⟨rfl, by rw [show c + d + 1 = c + 1 + d by omega]; exact hN, B0⟩
end Go.Proofs.Ytflbaadfbjpakaa
