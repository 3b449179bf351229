/- Layer 7: the quotients of Euclid's algorithm; hasChoice; Steps of both. -/
import Derived.Test.YtdafpjapepfniaaWi
import Derived.Test.YtdafpjapepfniaaNb
import Derived.Lib.MinMax
namespace Go.Proofs.Ytdafpjapepfniaa
open Go Go.RowKit

/-- Numbers as integers. -/
def nI (l : List Nat) : List Int := l.map fun k => ((k : Nat) : Int)
theorem nI_length (l : List Nat) : (nI l).length = l.length := by simp [nI]
theorem nI_snoc (l : List Nat) (k : Nat) : nI (l ++ [k]) = nI l ++ [(k : Int)] := by simp [nI]
theorem nI_nth {l : List Nat} {i : Nat} (h : i < l.length) : nth (nI l) i = ((l.getD i 0 : Nat) : Int) := by simp [nth, nI, h]
theorem qs_len : ∀ n x y : Nat, y ≤ n → (qs x y).length ≤ y
  | 0, x, y, h => by obtain rfl : y = 0 := by omega
                     rw [qs_zero]; exact Nat.le_refl _
  | n + 1, x, y, h => by
    rcases Nat.eq_zero_or_pos y with rfl | hy
    · rw [qs_zero]; exact Nat.le_refl _
    · have := Nat.mod_lt x hy
      have := qs_len n y (x % y) (by omega)
      rw [qs_pos hy, List.length_cons]; omega
theorem mod_i (x y : Nat) : (x : Int) % (y : Int) = ((x % y : Nat) : Int) := (Int.natCast_emod x y).symm
theorem div_i (x y : Nat) : (x : Int) / (y : Int) = ((x / y : Nat) : Int) := (Int.natCast_ediv x y).symm
set_option maxRecDepth 100000 in
set_option maxHeartbeats 4000000 in
theorem quotients_any (a b : Nat) (w : World) (ha : a ≤ 1099511627776) (hb : b ≤ 1099511627776) : Calls Try.prog 54 #[.int .i64 (a : Int), .int .i64 (b : Int)] w (NewI (nI (qs (max a b) (min a b))) w) := by
  obtain ⟨i0, hi, hz0, hz1, hz2⟩ := info_parts infoInt
  have G0 := Lib.hid hi
  have G1 := Lib.hid hz0
  have G2 := Lib.hid hz1
  have G3 := Lib.hid hz2
  clear hi hz0 hz1 hz2
  obtain ⟨X, hX⟩ : ∃ X, Hid (max a b = X) := ⟨_, Lib.hid rfl⟩
  obtain ⟨Y, hY⟩ : ∃ Y, Hid (min a b = Y) := ⟨_, Lib.hid rfl⟩
  rw [hX.out, hY.out]
  have hXb : X ≤ 1099511627776 := by rw [← hX.out]; omega
  have hYb : Y ≤ 1099511627776 := by rw [← hY.out]; omega
  have hlen := Lib.hid (qs_len Y X Y (Nat.le_refl _))
  have h3 : ((a : Int) < b ∧ b = X ∧ a = Y) ∨ (a = b ∧ a = X ∧ b = Y) ∨ ((b : Int) < a ∧ a = X ∧ b = Y) := by have := hX.out; have := hY.out; omega
  clear hX hY
  obtain ⟨L, hL⟩ : ∃ L, Hid (qs X Y = L) := ⟨_, Lib.hid rfl⟩
  rw [hL.out] at hlen ⊢
  have hmm : ((max (a : Int) (b : Int) = (X : Int)) ∧ min (a : Int) (b : Int) = (Y : Int)) := by omega
  obtain ⟨e1, e2⟩ := hmm
  rcases h3 with ⟨h, rfl, rfl⟩ | ⟨rfl, rfl, rfl⟩ | ⟨h, rfl, rfl⟩
  all_goals
    go_enter Try.func54, Try.ntmps54
    go_wp2
    go_loopw [5, 6, 7] (fun p q v wr => ∃ x y : Nat, ∃ l : List Nat, p = .int .i64 x ∧ q = .int .i64 y ∧ x ≤ 1099511627776 ∧ y ≤ 1099511627776 ∧ Hid (L = l ++ qs x y) ∧ wr.ownsRow w.heap.size 3 1 v (nI l).length (lI (nI l)) ∧ Below w.heap.size w wr) (fun _ q _ _ => (intOf q).toNat)
    case atStart => exact ⟨_, _, [], rfl, rfl, by assumption, by assumption, Lib.hid hL.out.symm, World.ownsRow_nil _ _ _ _, Below.refl _ _⟩
    case round =>
      obtain ⟨x, y, l, rfl, rfl, hx, hy, hq, hown, B0⟩ := hrel
      obtain ⟨a', c, rfl, hc', hI⟩ := own_intsA hown rfl
      by_cases hy0 : 0 < y
      · have hy1 : (0 : Int) < (y : Int) := by omega
        have hll : (nI l).length ≤ 1099511627776 := by have h1 := hlen.out; rw [hq.out, List.length_append] at h1; rw [nI_length]; omega
        have hq2 : Hid (L = (l ++ [x / y]) ++ qs y (x % y)) := Lib.hid (by rw [hq.out, qs_pos hy0]; simp)
        have hm : x % y < y := Nat.mod_lt _ hy0
        have hd : x / y ≤ x := Nat.div_le_self _ _
        have hs := B0.size
        have ed := div_i x y
        obtain ⟨d, hdd⟩ : ∃ d, Hid (x / y = d) := ⟨_, Lib.hid rfl⟩
        obtain ⟨m, hmm⟩ : ∃ m, Hid (x % y = m) := ⟨_, Lib.hid rfl⟩
        have em := mod_i x y
        rw [hdd.out] at hd hq2 ed
        rw [hmm.out] at hm hq2 em
        generalize hn : (nI l).length = n at *
        replace hn := Lib.hid hn
        replace hI := Lib.hid hI
        clear hq
        go_wp2_with (at_builtin; refine wpList_append_own _ rfl _ _ 22 rfl w.heap.size 3 i0 (.int .i64 0) 1 8 Try.underlying22 G0.out G1.out G2.out G3.out rfl (by decide) _ _ _ rfl (hown.alloc _) ⟨_, 0, none⟩ 1 1 [.int .i64 (d : Int)] rfl rfl (cell_one_new _ _ _) (by simp [Value.oneCell']) (by unfold maxLen; omega) (by omega) (by simp; omega) ?_; intro v' w2 hown2 hgrow _)
        have B2 := (B0.alloc hs _).grown hgrow (by simp; omega) (fun q hq => by have := (hown.lt q hq).1; omega)
        refine wp_region_ext (by kernel_rfl) (by kernel_rfl) ?_
        repeat (go_big_quiet_step (fail))
        refine wpQuiet_nil ?_
        rintro ⟨w4, hw4⟩
        dsimp only
        have hown3 := Lib.hid (owns_next hown2 hw4)
        go_wp2
        go_roundw
        case rel => exact ⟨y, m, l ++ [d], rfl, by rw [em], hy, by omega, hq2, by rw [nI_snoc, List.length_append, hn.out, lI_snoc]; exact hown3.out, nextB B2 hw4⟩
        case measure => simp [intOf, em]; omega
      · obtain rfl : y = 0 := by omega
        have hq2 : Hid (L = l) := Lib.hid (by rw [hq.out, qs_zero, List.append_nil])
        clear hq
        go_wp2
        go_ret
        rw [hq2.out]
        exact ⟨a', c, rfl, hc', hI, B0⟩
theorem even_i (k : Nat) : ((k : Int) % 2 == 0) = (k % 2 == 0) := by rw [Bool.eq_iff_iff]; simp; omega
theorem ones_lt : ∀ l : List Nat, l ≠ [] → ones l < l.length
  | [], h => absurd rfl h
  | [_], _ => by simp [ones]
  | q :: p :: l, _ => by
    have := ones_lt (p :: l) (by simp)
    rw [ones]
    split
    · simp only [List.length_cons] at *; omega
    · simp
theorem ones_at : ∀ (l : List Nat) (k : Nat), k < ones l → l.getD k 0 = 1
  | [], k, h => by simp [ones] at h
  | [_], k, h => by simp [ones] at h
  | q :: p :: l, k, h => by
    rw [ones] at h
    split at h
    · rename_i e
      cases k with
      | zero => simpa using e
      | succ k => have := ones_at (p :: l) k (by omega); simpa using this
    · omega
theorem ones_end : ∀ (l : List Nat), l ≠ [] → ones l + 1 < l.length → l.getD (ones l) 0 ≠ 1
  | [], h, _ => absurd rfl h
  | [_], _, h => by simp [ones] at h
  | q :: p :: l, _, h => by
    rw [ones] at h ⊢
    split at h
    · rename_i e
      rw [if_pos e]
      have := ones_end (p :: l) (by simp) (by simp only [List.length_cons] at *; omega)
      simpa using this
    · rename_i e
      rw [if_neg e]
      simpa using e
set_option maxRecDepth 100000 in
theorem hasChoice_any (a : Option Addr) (l : List Nat) (n c : Nat) (w : World) (h : Ints w a (nI l)) (hn : l.length = n) (hs : n ≤ 1099511627776) : Calls Try.prog 77 #[.slice a n c] w (Only (.bool (hc l)) w) := by
  by_cases h0 : n = 0
  · subst h0
    have e : l = [] := List.eq_nil_of_length_eq_zero hn
    subst e
    clear h hn
    go_enter Try.func77, Try.ntmps77
    go_wp2
    go_ret
    exact Only.mk rfl
  · have hne : l ≠ [] := fun e => h0 (by rw [← hn, e]; rfl)
    obtain ⟨b, off, rfl, hcc⟩ : ∃ b off, a = some ⟨b, off, none⟩ ∧ ∀ i, i < n → w.cell? ⟨b, off + i, none⟩ = some (.int .i64 ((l.getD i 0 : Nat) : Int)) := by
      rcases h with h | ⟨b, off, e, h⟩
      · rw [nI_length] at h; omega
      · exact ⟨b, off, e, fun i hi => by have := h i (by rw [nI_length]; omega); rwa [nI_nth (by omega)] at this⟩
    clear h
    have h1 := Lib.hid (ones_at l)
    have h2 := Lib.hid (ones_end l hne)
    have h3 := ones_lt l hne
    rw [hn] at h3
    have h4 := Lib.hid (hc_ones l hne)
    rw [h4.out]
    have hn0 : ((n : Int) == 0) = false := by simp; omega
    replace hn := Lib.hid hn
    replace hcc := Lib.hid hcc
    obtain ⟨m, hm⟩ : ∃ m, Hid (ones l = m) := ⟨_, Lib.hid rfl⟩
    rw [hm.out] at h3 ⊢
    clear hne
    go_enter Try.func77, Try.ntmps77
    go_wp2
    go_loop [3] (fun i => ∃ k : Nat, k ≤ m ∧ i = .int .i64 k) (fun i => m - (intOf i).toNat)
    case atStart => exact ⟨0, by omega, rfl⟩
    case round =>
      obtain ⟨k, hk, rfl⟩ := hrel
      have x0 := hcc.out k (by omega)
      by_cases hlt : k < m
      · have e1 := h1.out k (by rw [hm.out]; exact hlt)
        rw [e1] at x0
        have hkn : (k : Int) < (n : Int) - 1 := by omega
        clear e1
        go_wp2
        go_round
        case rel => exact ⟨k + 1, by omega, by go_num⟩
        case measure => simp [intOf]; omega
      · obtain rfl : k = m := by omega
        by_cases hend : k + 1 < n
        · have e1 := h2.out (by rw [hm.out, hn.out]; exact hend)
          rw [hm.out] at e1
          have hkn : (k : Int) < (n : Int) - 1 := by omega
          generalize l.getD k 0 = z at *
          have e2 : (((z : Nat) : Int) == 1) = false := by rw [beq_eq_false_iff_ne]; omega
          clear e1
          go_wp2
          go_ret
          exact Only.mk (show Value.bool ((k : Int) % 2 == 0) = _ by rw [even_i])
        · have hkn : (n : Int) - 1 ≤ (k : Int) := by omega
          go_wp2
          go_ret
          exact Only.mk (show Value.bool ((k : Int) % 2 == 0) = _ by rw [even_i])
set_option maxRecDepth 100000 in
set_option maxHeartbeats 4000000 in
theorem refSteps_yes (a b : Nat) (w : World) (ha : a ≤ 1099511627776) (hb : b ≤ 1099511627776) : Calls Try.prog 27 #[.int .i64 (a : Int), .int .i64 (b : Int)] w (GotI (nI (qs (max a b) (min a b))) w) := by
  obtain ⟨i0, hi, hz0, hz1, hz2⟩ := info_parts infoInt
  have G0 := Lib.hid hi
  have G1 := Lib.hid hz0
  have G2 := Lib.hid hz1
  have G3 := Lib.hid hz2
  clear hi hz0 hz1 hz2
  have ha0 : (0 : Int) ≤ (a : Int) := by omega
  have ha1 : (a : Int) ≤ 1099511627776 := by omega
  have hb0 : (0 : Int) ≤ (b : Int) := by omega
  have hb1 : (b : Int) ≤ 1099511627776 := by omega
  obtain ⟨X, hX⟩ : ∃ X, Hid (max a b = X) := ⟨_, Lib.hid rfl⟩
  obtain ⟨Y, hY⟩ : ∃ Y, Hid (min a b = Y) := ⟨_, Lib.hid rfl⟩
  rw [hX.out, hY.out]
  have hXb : X ≤ 1099511627776 := by rw [← hX.out]; omega
  have hYb : Y ≤ 1099511627776 := by rw [← hY.out]; omega
  have hlen := Lib.hid (qs_len Y X Y (Nat.le_refl _))
  have h3 : ((a : Int) < b ∧ b = X ∧ a = Y) ∨ (a = b ∧ a = X ∧ b = Y) ∨ ((b : Int) < a ∧ a = X ∧ b = Y) := by have := hX.out; have := hY.out; omega
  clear hX hY
  obtain ⟨L, hL⟩ : ∃ L, Hid (qs X Y = L) := ⟨_, Lib.hid rfl⟩
  rw [hL.out] at hlen ⊢
  have hmm : ((max (a : Int) (b : Int) = (X : Int)) ∧ min (a : Int) (b : Int) = (Y : Int)) := by omega
  obtain ⟨e1, e2⟩ := hmm
  rcases h3 with ⟨h, rfl, rfl⟩ | ⟨rfl, rfl, rfl⟩ | ⟨h, rfl, rfl⟩
  all_goals
    go_enter Try.func27, Try.ntmps27
    go_wp2
    go_loopw [6, 7, 8] (fun p q v wr => ∃ x y : Nat, ∃ l : List Nat, p = .int .i64 x ∧ q = .int .i64 y ∧ x ≤ 1099511627776 ∧ y ≤ 1099511627776 ∧ Hid (L = l ++ qs x y) ∧ wr.ownsRow w.heap.size 3 1 v (nI l).length (lI (nI l)) ∧ Below w.heap.size w wr) (fun _ q _ _ => (intOf q).toNat)
    case atStart => exact ⟨_, _, [], rfl, rfl, by assumption, by assumption, Lib.hid hL.out.symm, World.ownsRow_nil _ _ _ _, Below.refl _ _⟩
    case round =>
      obtain ⟨x, y, l, rfl, rfl, hx, hy, hq, hown, B0⟩ := hrel
      obtain ⟨a', c, rfl, hc', hI⟩ := own_intsA hown rfl
      by_cases hy0 : 0 < y
      · have hy1 : (0 : Int) < (y : Int) := by omega
        have hll : (nI l).length ≤ 1099511627776 := by have h1 := hlen.out; rw [hq.out, List.length_append] at h1; rw [nI_length]; omega
        have hq2 : Hid (L = (l ++ [x / y]) ++ qs y (x % y)) := Lib.hid (by rw [hq.out, qs_pos hy0]; simp)
        have hm : x % y < y := Nat.mod_lt _ hy0
        have hd : x / y ≤ x := Nat.div_le_self _ _
        have hs := B0.size
        have ed := div_i x y
        obtain ⟨d, hdd⟩ : ∃ d, Hid (x / y = d) := ⟨_, Lib.hid rfl⟩
        obtain ⟨m, hmm⟩ : ∃ m, Hid (x % y = m) := ⟨_, Lib.hid rfl⟩
        have em := mod_i x y
        rw [hdd.out] at hd hq2 ed
        rw [hmm.out] at hm hq2 em
        generalize hn : (nI l).length = n at *
        replace hn := Lib.hid hn
        replace hI := Lib.hid hI
        clear hq
        go_wp2_with (at_builtin; refine wpList_append_own _ rfl _ _ 22 rfl w.heap.size 3 i0 (.int .i64 0) 1 8 Try.underlying22 G0.out G1.out G2.out G3.out rfl (by decide) _ _ _ rfl (hown.alloc _) ⟨_, 0, none⟩ 1 1 [.int .i64 (d : Int)] rfl rfl (cell_one_new _ _ _) (by simp [Value.oneCell']) (by unfold maxLen; omega) (by omega) (by simp; omega) ?_; intro v' w2 hown2 hgrow _)
        have B2 := (B0.alloc hs _).grown hgrow (by simp; omega) (fun q hq => by have := (hown.lt q hq).1; omega)
        go_roundw
        case rel => exact ⟨y, m, l ++ [d], rfl, by rw [em], hy, by omega, hq2, by rw [nI_snoc, List.length_append, hn.out, lI_snoc]; exact hown2, B2⟩
        case measure => simp [intOf, em]; omega
      · obtain rfl : y = 0 := by omega
        have hq2 : Hid (L = l) := Lib.hid (by rw [hq.out, qs_zero, List.append_nil])
        clear hq
        go_wp2
        go_ret2
        rw [hq2.out]
        exact ⟨a', c, rfl, hc', hI, B0⟩
theorem Steps_yes (a b : Nat) (w : World) (ha : a ≤ 1099511627776) (hb : b ≤ 1099511627776) : Calls Try.prog 26 #[.int .i64 (a : Int), .int .i64 (b : Int)] w (GotI (nI (qs (max a b) (min a b))) w) := by
  have P := Lib.hid (fun W => quotients_any a b W ha hb)
  have H1 := isHeap_any a
  rw [decide_eq_true (show HeapP (a : Int) from ⟨by omega, by omega⟩)] at H1
  have H2 := isHeap_any b
  rw [decide_eq_true (show HeapP (b : Int) from ⟨by omega, by omega⟩)] at H2
  replace H1 := Lib.hid H1
  replace H2 := Lib.hid H2
  generalize nI (qs (max a b) (min a b)) = L at *
  obtain ⟨m, hm⟩ : ∃ m, Hid (L.length = m) := ⟨_, Lib.hid rfl⟩
  go_enter Try.func26, Try.ntmps26
  go_wp2_with (first
    | (go_at_call 44; (with_reducible refine (H1.out _).mono ?_); rintro e w1 ⟨rfl, rfl⟩)
    | (go_at_call 44; (with_reducible refine (H2.out _).mono ?_); rintro e w1 ⟨rfl, rfl⟩)
    | (go_at_call 54; refine (P.out _).mono ?_; rintro e w1 ⟨a', c, rfl, hc, hI, B1⟩; rw [hm.out] at hc ⊢))
  go_ret2
  exact ⟨a', c, by rw [hm.out]; rfl, by rw [hm.out]; exact hc, hI, B1⟩
theorem Steps_no (n l : Int) (w : World) (h : ¬ (HeapP n ∧ HeapP l)) : Calls Try.prog 26 #[.int .i64 n, .int .i64 l] w (Only (errI 2) w) := by
  have H1 := isHeap_any n
  have H2 := isHeap_any l
  by_cases h1 : HeapP n
  · have h2 : ¬ HeapP l := fun h2 => h ⟨h1, h2⟩
    rw [decide_eq_true h1] at H1
    rw [decide_eq_false h2] at H2
    replace H1 := Lib.hid H1
    replace H2 := Lib.hid H2
    clear h h1 h2
    go_enter Try.func26, Try.ntmps26
    go_wp2_with (first
      | (go_at_call 44; (with_reducible refine (H1.out _).mono ?_); rintro e w1 ⟨rfl, rfl⟩)
      | (go_at_call 44; (with_reducible refine (H2.out _).mono ?_); rintro e w1 ⟨rfl, rfl⟩))
    go_ret2
    exact Only.mk rfl
  · rw [decide_eq_false h1] at H1
    replace H1 := Lib.hid H1
    clear h h1 H2
    go_enter Try.func26, Try.ntmps26
    go_wp2_with (go_at_call 44; (with_reducible refine (H1.out _).mono ?_); rintro e w1 ⟨rfl, rfl⟩)
    go_ret2
    exact Only.mk rfl
/-- One of two numbers can be no heap. -/
theorem not_heaps {n l : Int} (h : ¬ (HeapP n ∧ HeapP l)) : n < 0 ∨ 0 ≤ n ∧ 1099511627776 < n ∨ 0 ≤ n ∧ n ≤ 1099511627776 ∧ l < 0 ∨ 0 ≤ n ∧ n ≤ 1099511627776 ∧ 0 ≤ l ∧ 1099511627776 < l := by unfold HeapP at h; omega
theorem refSteps_no (n l : Int) (w : World) (h : ¬ (HeapP n ∧ HeapP l)) : Calls Try.prog 27 #[.int .i64 n, .int .i64 l] w (Only (errI 2) w) := by
  rcases not_heaps h with h1 | ⟨h1, h2⟩ | ⟨h1, h2, h3⟩ | ⟨h1, h2, h3, h4⟩
  all_goals
    clear h
    go_enter Try.func27, Try.ntmps27
    go_wp2
    go_ret2
    exact Only.mk rfl
end Go.Proofs.Ytdafpjapepfniaa
