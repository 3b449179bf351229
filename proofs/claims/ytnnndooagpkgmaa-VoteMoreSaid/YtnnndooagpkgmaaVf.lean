/- Layer 3, by the program: what a game tells. -/
import Derived.Test.YtnnndooagpkgmaaVe
namespace Go.Proofs.Ytnnndooagpkgmaa
open Go Go.RowKit

theorem all_any (n B N : Nat) (w : World) (h8 : n ≤ 8) : Calls Try.prog 54 #[gV n B N] w (Ret (.int .i64 ((pw n - 1 : Nat) : Int)) w) := by
  have sh := wrap_shl (k := n) (by omega)
  have hp8 : pw n ≤ 256 := by have := pw_mono h8; simpa [pw] using this
  have hp1 := pw_pos n
  have e : ((pw n : Nat) : Int) - 1 = ((pw n - 1 : Nat) : Int) := by omega
  obtain ⟨M, hM⟩ : ∃ M, Hid (pw n - 1 = M) := ⟨_, Lib.hid rfl⟩
  rw [hM.out] at e ⊢
  have e2 := Lib.hid e
  clear e
  go_enter Try.func54, Try.ntmps54
  go_wp2
  go_ret
  exact Ret.mk (show Value.int .i64 _ = _ by rw [← e2.out]) (b1 _ _)
theorem knows_any (n B N : Nat) (s : Int) (w : World) (h8 : n ≤ 8) : Calls Try.prog 44 #[gV n B N, .int .i64 s] w (Ret (.bool (decide (0 ≤ s ∧ s < (pw n : Nat)))) w) := by
  have A := Lib.hid (fun W => all_any n B N W h8)
  have hp1 := pw_pos n
  obtain ⟨M, hM⟩ : ∃ M, Hid (pw n = M) := ⟨_, Lib.hid rfl⟩
  rw [hM.out] at A hp1 ⊢
  by_cases hs : 0 ≤ s
  · cases g : decide (s ≤ ((M - 1 : Nat) : Int))
    all_goals
      have g' := Lib.hid g
      go_enter Try.func44, Try.ntmps44
      go_wp2_with (go_at_call 54; refine (A.out _).mono ?_; rintro e w1 ⟨rfl, hb⟩)
      go_ret
      exact Ret.mk (ret_dec (by
        have g := g'.out
        simp only [decide_eq_true_eq, decide_eq_false_iff_not] at g
        simp only [Bool.false_eq_true, false_iff, true_iff]
        omega)) (nextB (b1 _ _) hb)
  · rw [decide_eq_false (show ¬ (0 ≤ s ∧ s < (M : Nat)) by omega)]
    go_enter Try.func44, Try.ntmps44
    go_wp2
    go_ret
    exact Ret.mk rfl (b1 _ _)
/-- Does a drover turn a set? -/
def turnB (f : Nat → Bool) (d s : Nat) : Bool := !(s.testBit d) && !(f s) && f (s + pw d)
set_option maxRecDepth 100000 in
set_option maxHeartbeats 800000 in
theorem turns_any (n B d s : Nat) (f : Nat → Bool) (w : World) (h8 : n ≤ 8) (hd : d < n) (hs : s < pw n) (hB : Bools w B (pw n) f) :
    Calls Try.prog 70 #[gV n B (pw n), .int .i64 (d : Nat), .int .i64 (s : Nat)] w (Ret (.bool (turnB f d s)) w) := by
  have sh := wrap_shl (k := d) (by omega)
  have hp8 : pw n ≤ 256 := by have := pw_mono h8; simpa [pw] using this
  have hpd := pw_lt hd
  have orr := i64_or_nat s (pw d) (by omega) (by omega)
  have hsi : (s : Int) < ((pw n : Nat) : Int) := by omega
  have x0 := hB s hs
  have hBl : B < w.heap.size := block_lt_of_cell x0
  cases hb : s.testBit d
  · have hlt := add_lt hs hd hb
    have x1 := hB _ hlt
    have hti : ((s + pw d : Nat) : Int) < ((pw n : Nat) : Int) := by omega
    have hpos := pw_pos d
    rw [or_eq_add hb] at orr
    have hne : (((s + pw d : Nat) : Int) != (s : Int)) = true := by rw [bne_iff_ne]; omega
    obtain ⟨t, ht⟩ : ∃ t, Hid (s + pw d = t) := ⟨_, Lib.hid rfl⟩
    have hR : Hid (turnB f d s = (!(f s) && f t)) := Lib.hid (by unfold turnB; rw [hb, ht.out]; rfl)
    rw [ht.out] at orr hne hti x1
    replace hb := Lib.hid hb
    replace hlt := Lib.hid hlt
    generalize pw n = N at *
    cases g : f s
    all_goals
      cases g2 : f t
      all_goals
        rw [g] at x0
        rw [g2] at x1
        rw [g, g2] at hR
        replace g := Lib.hid g
        replace g2 := Lib.hid g2
        rw [hR.out]
        go_enter Try.func70, Try.ntmps70
        go_wp2
        go_ret
        exact Ret.mk rfl (b1 _ _)
  · rw [or_eq_self hb] at orr
    have hne : ((s : Int) != (s : Int)) = false := by simp
    have hR : Hid (turnB f d s = false) := Lib.hid (by unfold turnB; rw [hb]; rfl)
    rw [hR.out]
    replace hb := Lib.hid hb
    generalize pw n = N at *
    go_enter Try.func70, Try.ntmps70
    go_wp2
    go_ret
    exact Ret.mk rfl (b1 _ _)
/-- How many of the first k. -/
def cnt (p : Nat → Bool) : Nat → Nat
  | 0 => 0
  | k + 1 => cnt p k + if p k then 1 else 0
theorem cnt_le (p : Nat → Bool) (k : Nat) : cnt p k ≤ k := by
  induction k with
  | zero => simp [cnt]
  | succ k ih => rw [cnt]; split <;> omega
set_option maxRecDepth 100000 in
set_option maxHeartbeats 800000 in
theorem turned_any (n B d : Nat) (f : Nat → Bool) (w : World) (h8 : n ≤ 8) (hd : d < n) (hB : Bools w B (pw n) f) :
    Calls Try.prog 47 #[gV n B (pw n), .int .i64 (d : Nat)] w (Ret (.int .i64 ((cnt (turnB f d) (pw n) : Nat) : Int)) w) := by
  have T := Lib.hid (fun s W (hs : s < pw n) (hW : Below w.heap.size w W) => turns_any n B d s f W h8 hd hs (hB.next hW))
  have hp8 : pw n ≤ 256 := by have := pw_mono h8; simpa [pw] using this
  have hle := Lib.hid (cnt_le (turnB f d))
  obtain ⟨N, hN⟩ : ∃ N, Hid (pw n = N) := ⟨_, Lib.hid rfl⟩
  rw [hN.out] at T hp8 ⊢
  clear hB
  go_enter Try.func47, Try.ntmps47
  go_wp2
  have g0 := Blk.new w 60 #[.int .i64 (n : Nat), .slice (some ⟨B, 0, none⟩) N N]
  go_loopw [5, 6, 10] (fun c _ i wr => ∃ k : Nat, k ≤ N ∧ i = .int .i64 k ∧ c = .int .i64 ((cnt (turnB f d) k : Nat) : Int) ∧ Blk wr w.heap.size 60 #[.int .i64 (n : Nat), .slice (some ⟨B, 0, none⟩) N N] ∧ Below w.heap.size w wr) (fun _ _ i _ => N - (intOf i).toNat)
  case atStart => exact ⟨0, by omega, rfl, rfl, g0, b1 _ _⟩
  case round =>
    clear g0
    obtain ⟨k, hk, rfl, rfl, hG, B0⟩ := hrel
    have hc := hle.out k
    have g0 := hG.c 0 rfl
    have g1 := hG.c 1 rfl
    replace hG := Lib.hid hG
    by_cases hlt : k < N
    · have hki : (k : Int) < (N : Int) := by omega
      have TT := Lib.hid (T.out k wr (by omega) B0)
      have hst := Lib.hid (show cnt (turnB f d) (k + 1) = cnt (turnB f d) k + if turnB f d k then 1 else 0 from rfl)
      obtain ⟨c, hcc⟩ : ∃ c, Hid (cnt (turnB f d) k = c) := ⟨_, Lib.hid rfl⟩
      rw [hcc.out] at hc hst ⊢
      cases g : turnB f d k
      all_goals
        rw [g] at TT hst
        replace g := Lib.hid g
        go_wp2_with (go_at_call 70; refine TT.out.mono ?_; rintro e w1 ⟨rfl, hb⟩)
        go_roundw
        case rel => exact ⟨k + 1, by omega, by go_num, by rw [hst.out]; first | rfl | go_num, hG.out.ext hb, nextB B0 hb⟩
        case measure => simp [intOf]; omega
    · obtain rfl : k = N := by omega
      go_wp2
      go_ret
      exact Ret.mk rfl B0
/-- Sets as numbers of the program. -/
def lN (L : List Nat) : List Int := L.map Int.ofNat
theorem lN_length (L : List Nat) : (lN L).length = L.length := by simp [lN]
theorem lN_snoc (L : List Nat) (k : Nat) : lN (L ++ [k]) = lN L ++ [(k : Int)] := by simp [lN]
theorem hasOne_lN (L : List Nat) (s : Nat) : hasOne (lN L) s = L.any fun o => inB o s := by
  unfold hasOne lN
  rw [List.any_map]
  rfl
theorem sets_lN {L : List Nat} {N : Nat} (h : ∀ o ∈ L, o < N) (hN : N ≤ 65536) : Sets (lN L) := fun x hx => by
  obtain ⟨o, ho, rfl⟩ := List.mem_map.1 hx
  have := h o ho
  show 0 ≤ (o : Int) ∧ (o : Int) < 65536
  omega
theorem leastL_mem (f : Nat → Bool) (k : Nat) : ∀ o ∈ leastL f k, o < k ∧ f o = true := by
  induction k with
  | zero => intro o ho; simp [leastL] at ho
  | succ k ih =>
    intro o ho
    rw [leastL] at ho
    split at ho
    · rename_i h
      rw [List.mem_append, List.mem_singleton] at ho
      rcases ho with ho | rfl
      · have := ih o ho; exact ⟨by omega, this.2⟩
      · rw [Bool.and_eq_true] at h; exact ⟨by omega, h.1⟩
    · have := ih o ho; exact ⟨by omega, this.2⟩
theorem leastL_len (f : Nat → Bool) (k : Nat) : (leastL f k).length ≤ k := by
  induction k with
  | zero => simp [leastL]
  | succ k ih =>
    rw [leastL]
    split
    · rw [List.length_append, List.length_singleton]; omega
    · omega
/-- A slice of numbers was returned. -/
def IntsR (L : List Int) (w : World) (e : Ending) (w' : World) : Prop := ∃ a c, e = .returned (.slice a L.length c) ∧ L.length ≤ c ∧ Ints w' a L ∧ Below w.heap.size w w'
set_option maxRecDepth 100000 in
set_option maxHeartbeats 1600000 in
theorem least_any (n B : Nat) (f : Nat → Bool) (w : World) (h8 : n ≤ 8) (hB : Bools w B (pw n) f) :
    Calls Try.prog 46 #[gV n B (pw n)] w (IntsR (lN (leastL f (pw n))) w) := by
  obtain ⟨i0, hi, hz0, hz1, hz2⟩ := info_parts infoInt
  have G0 := Lib.hid hi
  have G1 := Lib.hid hz0
  have G2 := Lib.hid hz1
  have G3 := Lib.hid hz2
  clear hi hz0 hz1 hz2
  have hp8 : pw n ≤ 256 := by have := pw_mono h8; simpa [pw] using this
  obtain ⟨N, hN⟩ : ∃ N, Hid (pw n = N) := ⟨_, Lib.hid rfl⟩
  rw [hN.out] at hp8 hB ⊢
  replace hB := Lib.hid hB
  have hle := Lib.hid (leastL_len f)
  have hme := Lib.hid (leastL_mem f)
  go_enter Try.func46, Try.ntmps46
  go_wp2
  have hB1 := Lib.hid (hB.out.next (b1 w (.cells #[.int .i64 (n : Nat), .slice (some ⟨B, 0, none⟩) N N] 60)))
  go_loopw [3, 4, 5, 9] (fun v _ _ i wr => ∃ k : Nat, k ≤ N ∧ i = .int .i64 k ∧ wr.ownsRow w.heap.size 3 1 v (lN (leastL f k)).length (lI (lN (leastL f k))) ∧ Bools wr B N f ∧ Below w.heap.size w wr) (fun _ _ _ i _ => N - (intOf i).toNat)
  case atStart => exact ⟨0, by omega, rfl, World.ownsRow_nil _ _ _ _, hB1.out, b1 _ _⟩
  case round =>
    clear hB1
    obtain ⟨k, hk, rfl, hown, hBw, B0⟩ := hrel
    obtain ⟨a, c, rfl, hc, hI⟩ := own_intsA hown rfl
    by_cases hlt : k < N
    · have hki : (k : Int) < (N : Int) := by omega
      have x0 := hBw k hlt
      have hl := hle.out k
      have hst := Lib.hid (show leastL f (k + 1) = if f k && !((leastL f k).any fun o => inB o k) then leastL f k ++ [k] else leastL f k from rfl)
      have C := Lib.hid (containsOne_any a _ c (lN (leastL f k)) k wr hI rfl (by rw [lN_length]; omega) (by omega) (sets_lN (fun o ho => (hme.out k o ho).1) (by omega)))
      rw [hasOne_lN] at C
      have hl2 := lN_length (leastL f k)
      have hl3 : (lN (leastL f k)).length ≤ k := by omega
      clear hl hl2
      generalize hL : leastL f k = L at hown hst C hc hI hl3
      replace hL := Lib.hid hL
      generalize hm : (lN L).length = m at hown hst C hc hI hl3
      replace hm := Lib.hid hm
      cases g : f k
      · rw [g] at x0 hst
        replace g := Lib.hid g
        replace hBw := Lib.hid hBw
        go_wp2
        go_roundw
        case rel => exact ⟨k + 1, by omega, by go_num, by rw [hst.out]; simp only [Bool.false_and, Bool.false_eq_true, if_false]; rw [hm.out]; exact hown, hBw.out, B0⟩
        case measure => simp [intOf]; omega
      · rw [g] at x0 hst
        replace g := Lib.hid g
        cases g2 : L.any fun o => inB o k
        · rw [g2] at C hst
          replace g2 := Lib.hid g2
          replace hBw := Lib.hid hBw
          go_wp2_with (first
            | (go_at_call 69; refine C.out.mono ?_; rintro e w1 ⟨rfl, hb1⟩; replace hown := owns_next hown hb1; replace hBw := Lib.hid (hBw.out.next hb1); replace B0 := nextB B0 hb1)
            | (at_builtin; refine wpList_append_own _ rfl _ _ 22 rfl w.heap.size 3 i0 (.int .i64 0) 1 8 Try.underlying22 G0.out G1.out G2.out G3.out rfl (by decide) _ _ _ rfl (hown.alloc _) ⟨_, 0, none⟩ 1 1 [.int .i64 (k : Int)] rfl rfl (cell_one_new _ _ _) (by simp [Value.oneCell']) (by unfold maxLen; omega) (by omega) (by have := B0.size; simp; omega) ?_; intro v' w2 hown2 hgrow _))
          have hsz := B0.size
          have B2 := (B0.alloc hsz _).grown hgrow (by simp; omega) (fun q hq => by have := (hown.lt q hq).1; omega)
          go_roundw
          case rel => exact ⟨k + 1, by omega, by go_num, by
            rw [hst.out]
            simp only [Bool.not_false, Bool.and_true, if_true]
            rw [lN_snoc, List.length_append, hm.out, lI_snoc]; exact hown2, hB.out.next B2, B2⟩
          case measure => simp [intOf]; omega
        · rw [g2] at C hst
          replace g2 := Lib.hid g2
          replace hBw := Lib.hid hBw
          go_wp2_with (go_at_call 69; refine C.out.mono ?_; rintro e w1 ⟨rfl, hb1⟩; replace hown := owns_next hown hb1; replace hBw := Lib.hid (hBw.out.next hb1); replace B0 := nextB B0 hb1)
          go_roundw
          case rel => exact ⟨k + 1, by omega, by go_num, by rw [hst.out]; simp only [Bool.not_true, Bool.and_false, Bool.false_eq_true, if_false]; rw [hm.out]; exact hown, hBw.out, B0⟩
          case measure => simp [intOf]; omega
    · obtain rfl : k = N := by omega
      go_wp2
      go_ret
      exact ⟨a, c, rfl, hc, hI, B0⟩
end Go.Proofs.Ytnnndooagpkgmaa
