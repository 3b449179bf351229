/- Layer 7, by the specification: the Fibonacci numbers of a heap; Parts. -/
import Derived.Test.YtdafpjapepfniaaWc
namespace Go.Proofs.Ytdafpjapepfniaa
open Go Go.RowKit

theorem fI_nth {l : List Nat} {i : Nat} (h : i < l.length) : nth (fI l) i = ((fb (l.getD i 0) : Nat) : Int) := by simp [nth, fI, h]
/-- The first k Fibonacci numbers. -/
def upF (k : Nat) : List Int := fI (List.range k)
theorem upF_length (k : Nat) : (upF k).length = k := by simp [upF, fI]
theorem upF_nth {k i : Nat} (h : i < k) : nth (upF k) i = ((fb i : Nat) : Int) := by
  unfold upF
  rw [fI_nth (by simpa using h)]
  simp [h]
theorem upF_succ (k : Nat) : upF (k + 1) = upF k ++ [((fb k : Nat) : Int)] := by simp [upF, List.range_succ, fI_snoc]
theorem cell_two_new (w : World) (x y : Int) : ∀ j, j < 2 → (w.alloc (.cells #[.int .i64 x, .int .i64 y] 3)).cell? ⟨w.heap.size, 0 + j, none⟩ = some (.int .i64 (nth [x, y] j)) := by
  intro j hj
  rw [Nat.zero_add]
  obtain rfl | rfl : j = 0 ∨ j = 1 := by omega
  · exact (Blk.new w _ _).c 0 rfl
  · exact (Blk.new w _ _).c 1 rfl
theorem fb_grows {k n : Nat} (h : fb k ≤ n) (hn : n ≤ 1099511627776) : k < 58 := by
  refine Nat.lt_of_not_le fun hk => ?_
  have := fb_mono hk
  have := fb59.2
  omega
set_option maxRecDepth 100000 in
set_option maxHeartbeats 4000000 in
theorem refparts_any (n : Nat) (w : World) (hn : n ≤ 1099511627776) : Calls Try.prog 46 #[.int .i64 (n : Int)] w (NewI (fI (zx n)) w) := by
  obtain ⟨i0, hi, hz0, hz1, hz2⟩ := info_parts infoInt
  have G0 := Lib.hid hi
  have G1 := Lib.hid hz0
  have G2 := Lib.hid hz1
  have G3 := Lib.hid hz2
  clear hi hz0 hz1 hz2
  go_enter Try.func46, Try.ntmps46
  go_wp2
  go_loopw [3] (fun v wr => ∃ k : Nat, (k = 0 ∨ fb k ≤ n) ∧ wr.ownsRow w.heap.size 3 1 v (k + 2) (lI (upF (k + 2))) ∧ Below w.heap.size w wr) (fun v wr => match v with | .slice _ m _ => n + 5 - m | _ => 0)
  case atStart => exact ⟨0, .inl rfl, World.ownsRow_lit _ _ 2 (Nat.le_refl _) (by unfold maxLen; omega) rfl, (Below.refl _ _).alloc (Nat.le_refl _) _⟩
  case round =>
    obtain ⟨k, hk, hown, B0⟩ := hrel
    have hk58 : k < 58 := by
      rcases hk with h | h
      · omega
      · exact fb_grows h hn
    have hkn : k ≤ n := by
      rcases hk with h | h
      · omega
      · have := fb_big k; omega
    clear hk
    obtain ⟨g, c, rfl⟩ := ownsRow_succ hown
    obtain ⟨hl, hc⟩ := own_ints hown
    have x1 := hc (k + 1) (by omega)
    have x0 := hc k (by omega)
    rw [upF_nth (by omega), Nat.zero_add] at x0 x1
    have f1 := fb_mono (show k + 1 ≤ 58 by omega)
    have f0 := fb_mono (show k ≤ 58 by omega)
    rw [fb59.2] at f0 f1
    have f2 := Lib.hid (fb_succ k)
    have f3 := Lib.hid (upF_succ (k + 2))
    have hz := B0.size
    clear hl hc
    by_cases hlt : fb (k + 1) ≤ n
    · have hlt' : ((fb (k + 1) : Nat) : Int) ≤ (n : Int) := by omega
      have hk' := Lib.hid hlt
      obtain ⟨y, hy⟩ : ∃ y, Hid (fb (k + 1) = y) := ⟨_, Lib.hid rfl⟩
      obtain ⟨x, hx⟩ : ∃ x, Hid (fb k = x) := ⟨_, Lib.hid rfl⟩
      rw [hy.out] at x1 f1 hlt hlt'
      rw [hx.out] at x0 f0
      go_wp2
      refine wp_region_take_tail 14 (.slice (some ⟨g, 0, none⟩) (k + 1 + 1) c) (by kernel_rfl) (by kernel_rfl) (fun _ _ _ h => h) (.inl ⟨by rfl, fun w => by go_simp⟩) ?_
      simp only [Act.put, List.setIfInBounds_toArray, List.set_cons_zero, List.set_cons_succ]
      dsimp only [List.take, List.drop, Nat.reduceSub]
      have y1 := cellX x1
      have y0 := cellX x0
      replace hown := Lib.hid hown
      repeat (go_big_quiet_step (fail))
      refine wpQuiet_nil ?_
      rintro ⟨w1, hw1⟩
      dsimp only
      clear x0 x1 y0 y1
      replace hown := owns_next hown.out hw1
      replace B0 := nextB B0 hw1
      replace hz := B0.size
      go_wp2_with (at_builtin; refine wpList_append_own _ rfl _ _ 22 rfl w.heap.size 3 i0 (.int .i64 0) 1 8 Try.underlying22 G0.out G1.out G2.out G3.out rfl (by decide) _ _ _ rfl (hown.alloc _) ⟨_, 0, none⟩ 1 1 [.int .i64 ((y : Int) + (x : Int))] rfl rfl (cell_one_new _ _ _) (by simp [Value.oneCell']) (by unfold maxLen; omega) (by omega) (by simp; omega) ?_; intro v' w2 hown2 hgrow _)
      have B2 := (B0.alloc hz _).grown hgrow (by simp; omega) (fun q hq => by have := (hown.lt q hq).1; omega)
      obtain ⟨g', c', rfl⟩ := ownsRow_succ hown2
      go_roundw
      case rel => exact ⟨k + 1, .inr hk'.out, by rw [show k + 1 + 2 = k + 2 + 1 by omega, f3.out, lI_snoc, f2.out, hx.out, hy.out, Int.natCast_add, Int.add_comm]; exact hown2, B2⟩
      case measure => simp; omega
    · have hlt' : (n : Int) < ((fb (k + 1) : Nat) : Int) := by omega
      have hend := Lib.hid (show zx n = [] ++ zk (k + 2) n by rw [zx_at (by have := fb_lt (k + 1); rw [show k + 2 = k + 1 + 1 by omega]; omega)]; rfl)
      clear f0 f1 f2 f3 x0
      obtain ⟨y, hy⟩ : ∃ y, Hid (fb (k + 1) = y) := ⟨_, Lib.hid rfl⟩
      rw [hy.out] at x1 hlt' hlt
      have hd : decide (y ≤ n) = false := decide_eq_false hlt
      clear hlt
      obtain ⟨K, hK⟩ : ∃ K, Hid (k + 2 = K) := ⟨_, Lib.hid rfl⟩
      go_wp2
      have xall := Lib.hid (fun i (hi : i < k + 2) (W : World) (hb : Below wr.heap.size wr W) => cellB hb ((own_ints hown).2 i hi))
      have hg := (hown.lt g rfl).2
      have hgo := (hown.lt g rfl).1
      have hlim : ∀ j, j < k + 2 → fb j ≤ 2000000000000 := fun j hj => by have := fb_mono (show j ≤ 58 by omega); have := fb59.2; omega
      replace hlim := Lib.hid hlim
      clear x1 hown hlt' hy
      generalize wr = w1 at *
      go_loopw [0, 4, 5] (fun nv v iv w2 => ∃ (j r : Nat) (l : List Nat), j ≤ k + 2 ∧ nv = .int .i64 r ∧ r ≤ n ∧ (j = 0 ∧ iv = .int .i64 (-1) ∨ ∃ i : Nat, j = i + 1 ∧ iv = .int .i64 i) ∧ Hid (zx n = l ++ zk j r) ∧ l.length + j ≤ k + 2 ∧ w2.ownsRow w1.heap.size 3 1 v l.length (lI (fI l)) ∧ Below w1.heap.size w1 w2) (fun _ _ i _ => (intOf i + 1).toNat)
      case atStart => exact ⟨k + 2, n, [], Nat.le_refl _, rfl, Nat.le_refl _, .inr ⟨k + 1, rfl, by go_num⟩, hend, by simp, World.ownsRow_nil _ _ _ _, Below.refl _ _⟩
      case round =>
        clear hend hK
        obtain ⟨j, r, l, hj, rfl, hr, hji, hzx, hll, hown, B1⟩ := hrel
        obtain ⟨a, c2, rfl, hc2, hI⟩ := own_intsA hown (fI_length l)
        have hz1 := B1.size
        rcases hji with ⟨rfl, rfl⟩ | ⟨i, rfl, rfl⟩
        · have hz := Lib.hid (show zx n = l by have := hzx.out; rwa [zk, List.append_nil] at this)
          clear hzx
          go_wp2
          go_ret
          rw [hz.out]
          exact ⟨a, c2, by rw [fI_length]; rfl, by rw [fI_length]; exact hc2, hI, nextB B0 B1⟩
        · have x0 := xall.out i (by omega) wr B1
          rw [upF_nth (by omega), Nat.zero_add] at x0
          have hli := hlim.out i (by omega)
          have hfr := (hown.lt)
          by_cases hp : fb i ≤ r
          · have hst := Lib.hid (show zx n = (l ++ [i]) ++ zk i (r - fb i) by rw [hzx.out, zk, if_pos hp]; simp)
            obtain ⟨x, hx⟩ : ∃ x, Hid (fb i = x) := ⟨_, Lib.hid rfl⟩
            rw [hx.out] at x0 hli hp
            have hp' : (x : Int) ≤ (r : Int) := by omega
            clear hzx hfr
            obtain ⟨m, hm⟩ : ∃ m, Hid (l.length = m) := ⟨_, Lib.hid rfl⟩
            rw [hm.out] at hown hc2 hll ⊢
            have hb : g < wr.heap.size := by omega
            replace hI := Lib.hid hI
            have hm60 : m ≤ 60 := by omega
            go_wp2_with (at_builtin; refine wpList_append_own _ rfl _ _ 22 rfl w1.heap.size 3 i0 (.int .i64 0) 1 8 Try.underlying22 G0.out G1.out G2.out G3.out rfl (by decide) _ _ _ rfl (hown.alloc _) ⟨_, 0, none⟩ 1 1 [.int .i64 (x : Int)] rfl rfl (cell_one_new _ _ _) (by simp [Value.oneCell']) (by unfold maxLen; omega) (by omega) (by simp; omega) ?_; intro v' w2 hown2 hgrow _; have B2 := Lib.hid ((Below.refl w1.heap.size wr |>.alloc hz1 _).grown hgrow (by simp; omega) (fun q hq => by have := (hown.lt q hq).1; omega)); have x2 := (B2.out.cell (p := ⟨g, i, none⟩) hg).trans x0)
            have B3 : Below w1.heap.size w1 w2 := B1.trans B2.out
            have hlen := Lib.hid (show (l ++ [i]).length = m + 1 by rw [List.length_append, hm.out]; rfl)
            cases i with
            | zero =>
              go_roundw
              case rel => exact ⟨0, r - x, l ++ [0], by omega, by first | go_num | (congr 1; omega), by omega, .inl ⟨rfl, rfl⟩, (by rw [← hx.out]; exact hst), by rw [hlen.out]; omega, by rw [hlen.out, fI_snoc, lI_snoc, hx.out]; exact hown2, B3⟩
              case measure => simp [intOf]
            | succ i =>
              go_roundw
              case rel => exact ⟨i + 1, r - x, l ++ [i + 1], by omega, by first | go_num | (congr 1; omega), by omega, .inr ⟨i, rfl, by go_num⟩, (by rw [← hx.out]; exact hst), by rw [hlen.out]; omega, by rw [hlen.out, fI_snoc, lI_snoc, hx.out]; exact hown2, B3⟩
              case measure => simp [intOf]; omega
          · have hst := Lib.hid (show zx n = l ++ zk i r by rw [hzx.out, zk, if_neg hp])
            obtain ⟨x, hx⟩ : ∃ x, Hid (fb i = x) := ⟨_, Lib.hid rfl⟩
            rw [hx.out] at x0 hli hp
            have hp' : (r : Int) < (x : Int) := by omega
            clear hzx hfr
            replace hown := Lib.hid hown
            go_wp2
            cases i with
            | zero =>
              go_roundw
              case rel => exact ⟨0, r, l, by omega, rfl, hr, .inl ⟨rfl, rfl⟩, hst, by omega, hown.out, B1⟩
              case measure => simp [intOf]
            | succ i =>
              go_roundw
              case rel => exact ⟨i + 1, r, l, by omega, rfl, hr, .inr ⟨i, rfl, by go_num⟩, hst, by omega, hown.out, B1⟩
              case measure => simp [intOf]; omega
theorem refParts_yes (n : Nat) (w : World) (hn : n ≤ 1099511627776) : Calls Try.prog 17 #[.int .i64 (n : Int)] w (GotI (fI (zx n)) w) := by
  have P := Lib.hid (refparts_any n w hn)
  have h1 : (0 : Int) ≤ (n : Int) := by omega
  have h2 : (n : Int) ≤ 1099511627776 := by omega
  generalize fI (zx n) = L at *
  obtain ⟨m, hm⟩ : ∃ m, Hid (L.length = m) := ⟨_, Lib.hid rfl⟩
  go_enter Try.func17, Try.ntmps17
  go_wp2_with (go_at_call 46; refine P.out.mono ?_; rintro e w1 ⟨a, c, rfl, hc, hI, B1⟩; rw [hm.out] at hc ⊢)
  go_ret2
  exact ⟨a, c, by rw [hm.out]; rfl, by rw [hm.out]; exact hc, hI, B1⟩
theorem refParts_no (n : Int) (w : World) (hn : ¬ HeapP n) : Calls Try.prog 17 #[.int .i64 n] w (Only (errI 2) w) := by
  have hn' : n < 0 ∨ 1099511627776 < n := by unfold HeapP at hn; omega
  clear hn
  rcases hn' with h | h
  all_goals
    go_enter Try.func17, Try.ntmps17
    go_wp2
    go_ret2
    exact Only.mk rfl
end Go.Proofs.Ytdafpjapepfniaa
