/- Layer 7, by the program: all bars. -/
import Derived.Test.YtdafpjapepfniaaWq
import Derived.Deep.Cut
namespace Go.Proofs.Ytdafpjapepfniaa
open Go Go.RowKit

set_option maxRecDepth 100000 in
set_option maxHeartbeats 4000000 in
theorem bars_any (R C : Nat) (w : World) (hR : R ≤ 6) (hC7 : C ≤ 7) : Calls Try.prog 68 #[.int .i64 (R : Int), .int .i64 (C : Int)] w (NewH (bH (brs R C)) w) := by
  obtain ⟨i0, hi, hz0, hz1, hz2⟩ := info_parts infoHp
  have G0 := Lib.hid hi
  have G1 := Lib.hid hz0
  have G2 := Lib.hid hz1
  have G3 := Lib.hid hz2
  clear hi hz0 hz1 hz2
  have hstart := Lib.hid (World.ownsRow_lit (base := w.heap.size) (e := 60) (size := 7) w (hC Go.Proofs.Ytdafpjapepfniaa.h0) 1 (Nat.le_refl _) (by unfold maxLen; omega) rfl)
  go_enter Try.func68, Try.ntmps68
  go_wp2
  go_loopw [5, 6, 7, 9, 10, 11, 15] (fun v _ _ _ _ _ i wr => ∃ k : Nat, k ≤ R ∧ i = .int .i64 k ∧ wr.ownsRow w.heap.size 60 7 v (bH (brs k C)).length (hL (bH (brs k C))) ∧ Below w.heap.size w wr) (fun _ _ _ _ _ _ i _ => R - (intOf i).toNat)
  case atStart => exact ⟨0, by omega, rfl, hstart.out, (Below.refl _ _).alloc (Nat.le_refl _) _⟩
  case round =>
    clear hstart
    obtain ⟨k, hk, rfl, hown, B⟩ := hrel
    obtain ⟨a, cap, rfl, hcap, hH⟩ := own_heaps hown rfl
    by_cases hlt : k < R
    · have hlt' : (k : Int) < (R : Int) := by omega
      have hk6 : k < 6 := by omega
      have hlen : (bH (brs k C)).length ≤ 262144 := by rw [bH, List.length_map]; exact brs_lt (by omega) hC7
      have hsz := B.size
      have hfl := Lib.hid hown.lt
      have hmap : Hid ((bH (brs k C)).length = (brs k C).length) := Lib.hid (by rw [bH, List.length_map])
      rw [hmap.out] at hH hcap hlen ⊢
      obtain ⟨N, hN⟩ : ∃ N, Hid ((brs k C).length = N) := ⟨_, Lib.hid rfl⟩
      rw [hN.out] at hH hcap hlen ⊢
      have hH := Lib.hid hH
      clear hown
      go_wp2
      generalize wr = w1 at *
      go_loopw [7, 9, 10, 11, 20] (fun v _ _ _ j wr => ∃ m : Nat, m ≤ N ∧ j = .int .i64 m ∧ wr.ownsRow w1.heap.size 60 7 v (bH (brT k C m)).length (hL (bH (brT k C m))) ∧ Below w1.heap.size w1 wr) (fun _ _ _ _ j _ => N - (intOf j).toNat)
      case atStart => exact ⟨0, by omega, rfl, World.ownsRow_nil _ _ _ _, Below.refl _ _⟩
      case round =>
        obtain ⟨m, hm, rfl, hown, B1⟩ := hrel
        by_cases hlm : m < N
        · have hlm' : (m : Int) < (N : Int) := by omega
          have hml : m < (brs k C).length := by rw [hN.out]; exact hlm
          obtain ⟨g, rfl, hg1, hgb⟩ := hH.out (by omega)
          have hglt : g < w1.heap.size := (hfl.out g rfl).2
          have hgb2 : HBlk wr g (bH (brs k C)) := hgb.keep (fun _ z => (B1.block g hglt).trans z)
          obtain ⟨c0, c1, c2, c3, c4, c5, c6⟩ := hgb2.c7 (i := m) (by rw [hmap.out]; exact hml)
          rw [hAt_bH hml] at c0 c1 c2 c3 c4 c5 c6
          have hK := brs_isK k C _ (fAt_mem hml)
          have hsu := Lib.hid (brT_succ hml)
          have hus := Lib.hid (fun s => brU_succ k C m (fAt (brs k C) m) s)
          have hu0 : Hid (brU k C m (fAt (brs k C) m) 0 = brT k C m) := Lib.hid (by simp [brU])
          have hul : Hid (∀ s, (bH (brU k C m (fAt (brs k C) m) s)).length ≤ 2097152 + s) := Lib.hid (fun s => by have h1 := brT_len k C m hC7; rw [hN.out] at h1; rw [bH, List.length_map, brU, List.length_append, List.length_map, List.length_range]; omega)
          obtain ⟨f, hf⟩ : ∃ f, Hid (fAt (brs k C) m = f) := ⟨_, Lib.hid rfl⟩
          rw [hf.out] at c0 c1 c2 c3 c4 c5 c6 hK hsu hus hu0 hul
          have hmost := hK.most
          have hput := Lib.hid (put_zero hK)
          obtain ⟨M, hM⟩ : ∃ M, Hid (mostF f k C = M) := ⟨_, Lib.hid rfl⟩
          rw [hM.out] at hmost hsu
          clear hgb hgb2 hml
          obtain ⟨U, hU⟩ : ∃ U : Nat → List (Nat → Nat), Hid (∀ s, brU k C m f s = U s) := ⟨_, Lib.hid fun _ => rfl⟩
          replace hsu : Hid (brT k C (m + 1) = U (M + 1)) := Lib.hid (by rw [hsu.out, hU.out])
          replace hus : Hid (∀ s, U (s + 1) = U s ++ [putF f k s]) := Lib.hid (fun s => by rw [← hU.out, ← hU.out, hus.out])
          replace hu0 : Hid (U 0 = brT k C m) := Lib.hid (by rw [← hU.out, hu0.out])
          replace hul : Hid (∀ s, (bH (U s)).length ≤ 2097152 + s) := Lib.hid (fun s => by rw [← hU.out]; exact hul.out s)
          have hbx := Lib.hid (Blk.new wr 60 (hC (barH f)))
          have hv0 : Hid (∀ v : Value, wr.ownsRow w1.heap.size 60 7 v (bH (brT k C m)).length (hL (bH (brT k C m))) → v.ownBlock ≠ some wr.heap.size) := Lib.hid (fun v hv e => by have := (hv.lt _ e).2; omega)
          have hsz1 := B1.size
          have hown := Lib.hid hown
          have hBa := Lib.hid (B1.alloc hsz1 (.cells (hC (barH f)) 60))
          have hnb := Lib.hid (hv0.out _ hown.out)
          have hMC : (0 : Int) < (k : Int) ∧ mostF f k C = f (k - 1) ∨ (k : Int) ≤ 0 ∧ M = C := by
            by_cases hk0 : k = 0
            · right; refine ⟨by omega, ?_⟩; rw [← hM.out, mostF, if_pos hk0]
            · left; exact ⟨by omega, by rw [mostF, if_neg hk0]⟩
          clear B1 hm
          rcases hMC with ⟨hk0, hMf⟩ | ⟨hk0, hMf⟩
          · have x0 : (wr.alloc (.cells (hC (barH f)) 60)).cell? ⟨wr.heap.size, k - 1, none⟩ = some (.int .i64 (M : Int)) := by
              have := cellK hbx.out (k := k - 1) (by omega)
              rw [this, ← hMf, hM.out]
            have y0 : (0 : Int) ≤ (k : Int) - 1 := by omega
            have y1 : ((k : Int) - 1).toNat = k - 1 := by omega
            have y2 : (k : Int) - 1 < 6 := by omega
            clear hMf
            go_wp2
            clear x0 y0 y1 y2
            clear c0 c1 c2 c3 c4 c5 c6
            have hown2 := Lib.hid (hown.out.alloc (.cells (hC (barH f)) 60))
            clear hown
            obtain ⟨b, hbs⟩ : ∃ b, Hid (wr.heap.size = b) := ⟨_, Lib.hid rfl⟩
            rw [hbs.out] at hbx hnb hsz1 ⊢
            have hbw : w1.heap.size ≤ b := hsz1
            generalize wr.alloc (.cells (hC (barH f)) 60) = w2 at *
            go_loopw [7, 11, 34] (fun v _ i w3 => ∃ s : Nat, s ≤ M + 1 ∧ i = .int .i64 s ∧ w3.ownsRow w1.heap.size 60 7 v (bH (U s)).length (hL (bH (U s))) ∧ v.ownBlock ≠ some b ∧ Blk w3 b 60 (hC (barH (putF f k (s - 1)))) ∧ Below w1.heap.size w1 w3) (fun _ _ i _ => M + 1 - (intOf i).toNat)
            case atStart => exact ⟨0, by omega, rfl, by rw [hu0.out]; exact hown2.out, hnb.out, by rw [Nat.zero_sub, hput.out]; exact hbx.out, hBa.out⟩
            case round =>
              clear hbx hBa hown2
              obtain ⟨s, hs, rfl, hown, hnb', hB, B1⟩ := hrel
              by_cases hls : s < M + 1
              · have hls' : (s : Int) < (M : Int) + 1 := by omega
                have z0 := cellK hB hk6
                have zf := hB.fr k
                have hbk := hB.setA (i := k) (.int .i64 (s : Int))
                rw [set_bar (g' := putF f k s) hk6 (by unfold putF; rw [if_pos rfl]) (fun i hi => by unfold putF; rw [if_neg hi, if_neg hi])] at hbk
                have hbk := Lib.hid hbk
                have hB1 := Lib.hid (B1.setCell (p := ⟨b, k, none⟩) hbw (.int .i64 (s : Int)))
                have hownS := Lib.hid (hown.kept (grown_set _ b k (.int .i64 (s : Int))) (.inr hnb'))
                have hnb' := Lib.hid hnb'
                clear hB hown
                go_upto_region 16 with (fail)
                have hus1 := Lib.hid (hus.out s)
                have hlu := hul.out s
                have hsb := hB1.out.size
                generalize wr.setCell ⟨b, k, none⟩ (.int .i64 (s : Int)) = V at *
                obtain ⟨d0, d1, d2, d3, d4, d5, d6⟩ := hbk.out.c7
                obtain ⟨n, hn⟩ : ∃ n, Hid ((bH (U s)).length = n) := ⟨_, Lib.hid rfl⟩
                have hownN := Lib.hid hownS.out
                rw [hn.out] at hlu hownN
                obtain ⟨a', cap', rfl, hcap', hH'⟩ := own_heaps hownN.out (by first | exact hn.out | (rw [← hn.out]))
                have hH' := Lib.hid hH'
                have hsz3 : w1.heap.size ≤ V.heap.size := hsb
                have hbV := hbk.out.lt
                have hc7 := Lib.hid (cell7_new V (barH (putF f k s)) 60)
                clear hbs hls z0 zf
                have hsM : n + 1 ≤ 3000000 := by omega
                obtain ⟨fs, hfs⟩ : ∃ fs, Hid (putF f k s = fs) := ⟨_, Lib.hid rfl⟩
                rw [hfs.out] at d0 d1 d2 d3 d4 d5 hc7 hbk hus1
                go_wp2_with (at_builtin; refine wpList_append_ownX _ rfl _ _ 79 rfl w1.heap.size 60 i0 (hV Go.Proofs.Ytdafpjapepfniaa.h0) 7 56 Try.underlying79 G0.out G1.out G2.out G3.out rfl (by decide) _ _ _ rfl (hownN.out.alloc _) ⟨_, 0, none⟩ 1 1 (hC (barH fs)).toList rfl rfl (by decide) hc7.out (by simp [Value.oneCell']) (by unfold maxLen; omega) (by omega) (by simp; omega) ?_; intro v' w5 hown5 hgrow hfr5)
                have B5 := (hB1.out.alloc hsz3 _).grown hgrow (by simp; omega) (fun q hq => by have := (hownN.out.lt q hq).1; omega)
                have hB5 := blk_grown (hbk.out.alloc _) hgrow (fun e => hnb'.out e.symm)
                have hnb5 : v'.ownBlock ≠ some b := fun e => by
                  rcases hfr5 with h | h
                  · exact hnb'.out (h ▸ e)
                  · have := h b e
                    simp at this
                    omega
                go_roundw
                case rel => exact ⟨s + 1, by omega, by go_num, (by rw [hus1.out, bH, List.map_append, List.length_append]; show World.ownsRow _ _ _ _ _ ((bH _).length + 1) (hL (bH _ ++ [_])); rw [hn.out, hL_snoc]; exact hown5), hnb5, (by rw [Nat.add_sub_cancel, hfs.out]; exact hB5), B5⟩
                case measure => simp [intOf]; omega
              · obtain rfl : s = M + 1 := by omega
                have hls' : (M : Int) + 1 ≤ ((M + 1 : Nat) : Int) := by omega
                have hown := Lib.hid hown
                have hnb' := Lib.hid hnb'
                clear hB
                go_wp2
                go_roundw
                case rel => exact ⟨m + 1, by omega, by go_num, by rw [hsu.out]; exact hown.out, B1⟩
                case measure => simp [intOf]; omega
          · subst hMf
            go_wp2
            clear c0 c1 c2 c3 c4 c5 c6
            have hown2 := Lib.hid (hown.out.alloc (.cells (hC (barH f)) 60))
            clear hown
            obtain ⟨b, hbs⟩ : ∃ b, Hid (wr.heap.size = b) := ⟨_, Lib.hid rfl⟩
            rw [hbs.out] at hbx hnb hsz1 ⊢
            have hbw : w1.heap.size ≤ b := hsz1
            generalize wr.alloc (.cells (hC (barH f)) 60) = w2 at *
            go_loopw [7, 11, 34] (fun v _ i w3 => ∃ s : Nat, s ≤ M + 1 ∧ i = .int .i64 s ∧ w3.ownsRow w1.heap.size 60 7 v (bH (U s)).length (hL (bH (U s))) ∧ v.ownBlock ≠ some b ∧ Blk w3 b 60 (hC (barH (putF f k (s - 1)))) ∧ Below w1.heap.size w1 w3) (fun _ _ i _ => M + 1 - (intOf i).toNat)
            case atStart => exact ⟨0, by omega, rfl, by rw [hu0.out]; exact hown2.out, hnb.out, by rw [Nat.zero_sub, hput.out]; exact hbx.out, hBa.out⟩
            case round =>
              clear hbx hBa hown2
              obtain ⟨s, hs, rfl, hown, hnb', hB, B1⟩ := hrel
              by_cases hls : s < M + 1
              · have hls' : (s : Int) < (M : Int) + 1 := by omega
                have z0 := cellK hB hk6
                have zf := hB.fr k
                have hbk := hB.setA (i := k) (.int .i64 (s : Int))
                rw [set_bar (g' := putF f k s) hk6 (by unfold putF; rw [if_pos rfl]) (fun i hi => by unfold putF; rw [if_neg hi, if_neg hi])] at hbk
                have hbk := Lib.hid hbk
                have hB1 := Lib.hid (B1.setCell (p := ⟨b, k, none⟩) hbw (.int .i64 (s : Int)))
                have hownS := Lib.hid (hown.kept (grown_set _ b k (.int .i64 (s : Int))) (.inr hnb'))
                have hnb' := Lib.hid hnb'
                clear hB hown
                go_upto_region 16 with (fail)
                have hus1 := Lib.hid (hus.out s)
                have hlu := hul.out s
                have hsb := hB1.out.size
                generalize wr.setCell ⟨b, k, none⟩ (.int .i64 (s : Int)) = V at *
                obtain ⟨d0, d1, d2, d3, d4, d5, d6⟩ := hbk.out.c7
                obtain ⟨n, hn⟩ : ∃ n, Hid ((bH (U s)).length = n) := ⟨_, Lib.hid rfl⟩
                have hownN := Lib.hid hownS.out
                rw [hn.out] at hlu hownN
                obtain ⟨a', cap', rfl, hcap', hH'⟩ := own_heaps hownN.out (by first | exact hn.out | (rw [← hn.out]))
                have hH' := Lib.hid hH'
                have hsz3 : w1.heap.size ≤ V.heap.size := hsb
                have hbV := hbk.out.lt
                have hc7 := Lib.hid (cell7_new V (barH (putF f k s)) 60)
                clear hbs hls z0 zf
                have hsM : n + 1 ≤ 3000000 := by omega
                obtain ⟨fs, hfs⟩ : ∃ fs, Hid (putF f k s = fs) := ⟨_, Lib.hid rfl⟩
                rw [hfs.out] at d0 d1 d2 d3 d4 d5 hc7 hbk hus1
                go_wp2_with (at_builtin; refine wpList_append_ownX _ rfl _ _ 79 rfl w1.heap.size 60 i0 (hV Go.Proofs.Ytdafpjapepfniaa.h0) 7 56 Try.underlying79 G0.out G1.out G2.out G3.out rfl (by decide) _ _ _ rfl (hownN.out.alloc _) ⟨_, 0, none⟩ 1 1 (hC (barH fs)).toList rfl rfl (by decide) hc7.out (by simp [Value.oneCell']) (by unfold maxLen; omega) (by omega) (by simp; omega) ?_; intro v' w5 hown5 hgrow hfr5)
                have B5 := (hB1.out.alloc hsz3 _).grown hgrow (by simp; omega) (fun q hq => by have := (hownN.out.lt q hq).1; omega)
                have hB5 := blk_grown (hbk.out.alloc _) hgrow (fun e => hnb'.out e.symm)
                have hnb5 : v'.ownBlock ≠ some b := fun e => by
                  rcases hfr5 with h | h
                  · exact hnb'.out (h ▸ e)
                  · have := h b e
                    simp at this
                    omega
                go_roundw
                case rel => exact ⟨s + 1, by omega, by go_num, (by rw [hus1.out, bH, List.map_append, List.length_append]; show World.ownsRow _ _ _ _ _ ((bH _).length + 1) (hL (bH _ ++ [_])); rw [hn.out, hL_snoc]; exact hown5), hnb5, (by rw [Nat.add_sub_cancel, hfs.out]; exact hB5), B5⟩
                case measure => simp [intOf]; omega
              · obtain rfl : s = M + 1 := by omega
                have hls' : (M : Int) + 1 ≤ ((M + 1 : Nat) : Int) := by omega
                have hown := Lib.hid hown
                have hnb' := Lib.hid hnb'
                clear hB
                go_wp2
                go_roundw
                case rel => exact ⟨m + 1, by omega, by go_num, by rw [hsu.out]; exact hown.out, B1⟩
                case measure => simp [intOf]; omega
        · obtain rfl : m = N := by omega
          have hall : Hid (brT k C m = brs (k + 1) C) := Lib.hid (by rw [← hN.out]; exact brT_all k C)
          have hown' := Lib.hid (owns_base hown hsz)
          clear hown
          go_wp2
          go_roundw
          case rel => exact ⟨k + 1, by omega, by go_num, by rw [← hall.out]; exact hown'.out, nextB B B1⟩
          case measure => simp [intOf]; omega
    · obtain rfl : k = R := by omega
      have hH := Lib.hid hH
      clear hown
      go_wp2
      go_ret
      exact ⟨a, cap, rfl, hcap, hH.out, B⟩
end Go.Proofs.Ytdafpjapepfniaa
