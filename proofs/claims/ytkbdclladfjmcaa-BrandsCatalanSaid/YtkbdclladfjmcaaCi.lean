/- Layer 2: Choices, by the program. Layer 2: the other line through two triangles, by the program. Layer 2: Flip, by the program. Layer 2: what every right program knows of a square and of a pentagon. -/
import Derived.Test.YtkbdclladfjmcaaCe
namespace Go.Proofs.Ytkbdclladfjmcaa
section
open Go Go.RowKit

/-- The t-th corner behind i. -/
def cor (n i t : Nat) : Nat := (i + 1 + t) % n
def btwT (n i t : Nat) : List Nat := (List.range t).map (cor n i)
/-- The corners strictly between i and k, around. -/
def btw (n i k : Nat) : List Nat := btwT n i ((k + n - i - 1) % n)
theorem btwT_succ (n i t : Nat) : btwT n i (t + 1) = btwT n i t ++ [cor n i t] := by simp [btwT, List.range_succ]
theorem btwT_length (n i t : Nat) : (btwT n i t).length = t := by simp [btwT]
theorem mod_small {a n : Nat} (h : a < n + n) : a % n = if a < n then a else a - n := by
  split
  · exact Nat.mod_eq_of_lt (by omega)
  · rw [Nat.mod_eq_sub_mod (by omega), Nat.mod_eq_of_lt (by omega)]
theorem cor_at {n i k t : Nat} (hi : i < n) (hk : k < n) (hik : i ≠ k) (ht : t ≤ (k + n - i - 1) % n) : (cor n i t = k ↔ t = (k + n - i - 1) % n) ∧ (k + n - i - 1) % n < n - 1 := by
  have e : (k + n - i - 1) % n = if i < k then k - i - 1 else k + n - i - 1 := by
    rw [mod_small (by omega)]
    split <;> split <;> omega
  rw [e] at ht ⊢
  unfold cor
  rw [mod_small (by split at ht <;> omega)]
  split at ht <;> split <;> (try rw [if_pos (by assumption)]) <;> (try rw [if_neg (by assumption)]) <;> omega
theorem cor_lt {n i t : Nat} (hn : 0 < n) : cor n i t < n := Nat.mod_lt _ hn
theorem lC_append (a b : List Nat) : lC (a ++ b) = lC a ++ lC b := by simp [lC]
theorem lC_btw (n i t : Nat) : lI (lC (btwT n i t)) ++ [.int .i64 (cor n i t : Nat)] = lI (lC (btwT n i (t + 1))) := by
  rw [btwT_succ, lC_append]
  simp [lI, lC]
theorem own_intsA {w : World} {base n : Nat} {e : TypeId} {v : Value} {xs : List Int} (h : w.ownsRow base e 1 v n (lI xs)) (hn : xs.length = n) : ∃ a c, v = .slice a n c ∧ n ≤ c ∧ Ints w a xs := by
  have h0 := h
  rcases h.2 with ⟨rfl, h2⟩ | ⟨g, cap, cur, rfl, hg, hh, hcap, r⟩
  · exact ⟨none, 0, by rw [h2], by omega, .inl (by omega)⟩
  · refine ⟨some ⟨g, 0, none⟩, cap, rfl, hcap, .inr ⟨g, 0, rfl, fun i hi => ?_⟩⟩
    exact (own_ints h0).2 i (by omega)
set_option maxRecDepth 100000 in
set_option maxHeartbeats 4000000 in
theorem Choices_yes (n i k : Nat) (a : Option Addr) (m c : Nat) (L : List (Int × Int)) (w : World) (h : Prs w a L) (hl : L.length = m) (hcap : m ≤ c) (hB : BrandP n L) (hi : i < n) (hk : k < n) (hik : i ≠ k) (hT : (tris n L).length ≤ 20) :
    Calls Try.prog 11 #[.int .i64 n, .slice a m c, .int .i64 i, .int .i64 k] w (Ret (.tuple #[.int .i64 (choF (tris n L) (btw n i k) 0), .int .i64 0]) w) := by
  have hn3 : 3 ≤ n := by have := hB.1; omega
  have hn : n ≤ 12 := by have := hB.2.1; omega
  have K := Lib.hid (brandOf_yes n a m c L w h hl hcap hB)
  have T := Lib.hid (fun W (hW : Below w.heap.size w W) => triangles_any n a m c L W (h.next hW) hl (by have := hB.2.2.1; omega) (by omega) (by omega))
  have C1 := isCorner_any n i
  have C2 := isCorner_any n k
  rw [decide_eq_true (show CornP n i from ⟨by omega, by omega⟩)] at C1
  rw [decide_eq_true (show CornP n k from ⟨by omega, by omega⟩)] at C2
  have ne1 : ((i : Int) == (k : Int)) = false := by rw [beq_eq_false_iff_ne]; omega
  have AF := fun (t : Nat) W (ht : t < n) => after_any n t W (by omega) (by omega) (by omega)
  replace AF := Lib.hid AF
  have hcor := Lib.hid (fun t (ht : t ≤ (k + n - i - 1) % n) => cor_at hi hk hik ht)
  have hd : Hid (btw n i k = btwT n i ((k + n - i - 1) % n)) := Lib.hid rfl
  have hdn := (hcor.out _ (Nat.le_refl _)).2
  generalize (k + n - i - 1) % n = d at *
  obtain ⟨i0, hi0, hz0, hz1, hz2⟩ := info_parts infoInt
  have G0 := Lib.hid hi0
  have G1 := Lib.hid hz0
  have G2 := Lib.hid hz1
  have G3 := Lib.hid hz2
  clear hi0 hz0 hz1 hz2 hB hl h
  have hc0 : Hid (((i : Int) + 1) % (n : Int) = ((cor n i 0 : Nat) : Int)) := by
    show ((i : Int) + 1) % (n : Int) = ((cor n i 0 : Nat) : Int)
    rw [cor, Nat.add_zero, Int.natCast_emod]
    rfl
  have hcs : Hid (∀ t : Nat, ((cor n i t : Nat) + 1 : Int) % (n : Int) = ((cor n i (t + 1) : Nat) : Int)) := Lib.hid (fun t => by
    unfold cor
    have e : ((((i + 1 + t) % n + 1) % n : Nat) : Int) = (((i + 1 + (t + 1)) % n : Nat) : Int) := by
      rw [Nat.mod_add_mod, show i + 1 + t + 1 = i + 1 + (t + 1) by omega]
    rw [← e, Int.natCast_emod]
    rfl)
  go_enter Try.func11, Try.ntmps11
  go_wp2_with (first
    | (go_at_call 13; refine K.out.mono ?_; rintro e w1 ⟨rfl, hb1⟩)
    | (go_at_call 20; (with_reducible refine (C1 _).mono ?_); rintro e w1 ⟨rfl, rfl⟩)
    | (go_at_call 20; (with_reducible refine (C2 _).mono ?_); rintro e w1 ⟨rfl, rfl⟩)
    | (go_at_call 21; refine (AF.out i _ hi).mono ?_; rintro e w1 ⟨rfl, rfl⟩))
  rw [hc0.out]
  clear hc0
  have X0 := Blk.new w1 42 #[.int .i64 n, .slice a m c]
  have B0 := nextB hb1 (b1 w1 (.cells #[.int .i64 n, .slice a m c] 42))
  have hz := hb1.size
  clear hb1
  generalize w1.heap.size = z at *
  go_loopw [12, 13] (fun v x wr => ∃ (t : Nat) (av : Option Addr) (cv : Nat), t ≤ d ∧ x = .int .i64 (cor n i t : Nat) ∧ v = .slice av t cv ∧ wr.ownsRow (z + 1) 3 1 (.slice av t cv) t (lI (lC (btwT n i t))) ∧ Blk wr z 42 #[.int .i64 n, .slice a m c] ∧ Below w.heap.size w wr) (fun v _ _ => n - sliceLen v)
  case atStart => exact ⟨0, none, 0, by omega, rfl, rfl, World.ownsRow_nil _ _ _ _, X0, B0⟩
  case round =>
    clear X0 B0
    obtain ⟨t, av, cv, ht, rfl, rfl, hown, X0, B0⟩ := hrel
    have hct := Lib.hid (hcor.out t ht).1
    have hcl := cor_lt (n := n) (i := i) (t := t) (by omega)
    have hl1 := Lib.hid (lC_btw n i t)
    have hl2 := Lib.hid (show (lC (btwT n i (t + 1))).length = t + 1 by rw [lC_length, btwT_length])
    have hl3 := Lib.hid (show (lC (btwT n i t)).length = t by rw [lC_length, btwT_length])
    have hnext := Lib.hid (hcs.out t)
    have AFt := AF.out (cor n i t)
    by_cases htd : t = d
    · have hck := hct.out.2 htd
      subst htd
      rw [hck]
      have g : ((k : Int) != (k : Int)) = false := by rw [bne_eq_false_iff_eq]
      have x0 := X0.c 0 rfl
      have x1 := X0.c 1 rfl
      obtain ⟨av', cv', e, hcv, hints⟩ := own_intsA hown hl3.out
      cases e
      have hT' := Lib.hid (T.out _ B0)
      replace hints := Lib.hid hints
      go_wp2_with fail
      refine hT'.out.mono ?_
      rintro e w2 ⟨v2, rfl, hown2, hb2⟩
      dsimp only
      obtain ⟨a2, c2, rfl, hc2, htr⟩ := own_trs hown2
      have CH := Lib.hid (choices_any (tris n L) a2 _ c2 rfl hT (btwT n i t) av t cv 0 w2 (btwT_length _ _ _) (by omega) (by decide) hcv htr (hints.out.next hb2))
      replace B0 := nextB B0 hb2
      clear hown2 htr hb2 x0 x1 X0 hown
      go_wp2_with fail
      refine CH.out.mono ?_
      rintro e w3 ⟨rfl, hb3⟩
      dsimp only
      replace B0 := nextB B0 hb3
      go_wp2_with fail
      go_ret2
      exact Ret.mk (by rw [hd.out]; rfl) B0
    · have g : (((cor n i t : Nat) : Int) != (k : Int)) = true := by
        rw [bne_iff_ne]
        have := mt hct.out.1 htd
        omega
      generalize cor n i t = ct at *
      go_wp2_with (first
        | (at_builtin; refine wpList_append_own _ rfl _ _ 35 rfl (z + 1) 3 i0 (.int .i64 0) 1 8 Try.underlying35 G0.out G1.out G2.out G3.out rfl (by decide) _ _ _ rfl (hown.alloc _) ⟨_, 0, none⟩ 1 1 [.int .i64 (ct : Int)] rfl rfl (cell_one_new _ _ _) (by simp [Value.oneCell']) (by unfold maxLen; omega) (by omega) (by have := X0.lt; simp; omega) ?_; intro v' w2 hown2 hgrow _; rw [hl1.out] at hown2; obtain ⟨a2, c2, rfl, _, _⟩ := own_intsA hown2 hl2.out)
        | (go_at_call 21; refine (AFt _ hcl).mono ?_; rintro e w1 ⟨rfl, rfl⟩))
      have hs := B0.size
      have B2 := (B0.alloc hs _).grown hgrow (by simp; omega) (fun q hq => by have := (hown.lt q hq).1; omega)
      have X2 := (X0.alloc _).grown hgrow (own_ne hown (by omega))
      go_roundw
      case rel => exact ⟨t + 1, a2, c2, by omega, by rw [hnext.out], rfl, hown2, X2, B2⟩
      case measure => simp [sliceLen]; omega
end
section
open Go Go.RowKit

/-- Is c joined to both ends? -/
def tipB (n : Nat) (L : List (Int × Int)) (q : Int × Int) (c : Nat) : Bool := decide (NearP n L c q.1) && decide (NearP n L c q.2)
def tipsT (n : Nat) (L : List (Int × Int)) (q : Int × Int) (t : Nat) : List Nat := (List.range t).filter (tipB n L q)
/-- The corners that are joined to both ends. -/
def tipsL (n : Nat) (L : List (Int × Int)) (q : Int × Int) : List Nat := tipsT n L q n
theorem tipsT_succ (n : Nat) (L : List (Int × Int)) (q : Int × Int) (t : Nat) : tipsT n L q (t + 1) = tipsT n L q t ++ if tipB n L q t = true then [t] else [] := by
  unfold tipsT
  rw [List.range_succ, List.filter_append]
  congr 1
  cases h : tipB n L q t <;> simp [h]
theorem tipsT_len (n : Nat) (L : List (Int × Int)) (q : Int × Int) (t : Nat) : (tipsT n L q t).length ≤ t := by
  unfold tipsT
  exact Nat.le_trans (List.length_filter_le _ _) (by simp)
/-- The line that takes the place of q. -/
def otherL (n : Nat) (L : List (Int × Int)) (q : Int × Int) : Int × Int := (min (nth (lC (tipsL n L q)) 0) (nth (lC (tipsL n L q)) 1), max (nth (lC (tipsL n L q)) 0) (nth (lC (tipsL n L q)) 1))
set_option maxRecDepth 100000 in
set_option maxHeartbeats 4000000 in
theorem across_any (n : Nat) (a : Option Addr) (m cp : Nat) (L : List (Int × Int)) (q0 q1 : Int) (w : World) (h : Prs w a L) (hl : L.length = m) (hm : m ≤ 4611686018427387904) (h1 : 1 ≤ n) (h2 : n ≤ 12)
    (k0 : 0 ≤ q0) (k1 : q0 ≤ 1000) (k2 : 0 ≤ q1) (k3 : q1 ≤ 1000) (htip : 2 ≤ (tipsL n L (q0, q1)).length) :
    Calls Try.prog 14 #[.agg #[.int .i64 n, .slice a m cp], .agg #[.int .i64 q0, .int .i64 q1]] w (Ret (.agg #[.int .i64 (otherL n L (q0, q1)).1, .int .i64 (otherL n L (q0, q1)).2]) w) := by
  obtain ⟨i0, hi0, hz0, hz1, hz2⟩ := info_parts infoInt
  have G0 := Lib.hid hi0
  have G1 := Lib.hid hz0
  have G2 := Lib.hid hz1
  have G3 := Lib.hid hz2
  clear hi0 hz0 hz1 hz2
  have J0 := Lib.hid (fun (x : Nat) W (hW : Below w.heap.size w W) (hx : x ≤ 12) => joined_any a m cp L n x q0 W (h.next hW) hl hm (by omega) (by omega) (by omega) k0 k1)
  have J1 := Lib.hid (fun (x : Nat) W (hW : Below w.heap.size w W) (hx : x ≤ 12) => joined_any a m cp L n x q1 W (h.next hW) hl hm (by omega) (by omega) (by omega) k2 k3)
  replace htip := Lib.hid htip
  clear hl h
  go_enter Try.func14, Try.ntmps14
  go_wp2
  have X0 := (Blk.new w 42 #[.int .i64 n, .slice a m cp]).alloc (.cells #[.int .i64 q0, .int .i64 q1] 29)
  have Y0 := Blk.new (w.alloc (.cells #[.int .i64 n, .slice a m cp] 42)) 29 #[.int .i64 q0, .int .i64 q1]
  have Z0 := Blk.new ((w.alloc (.cells #[.int .i64 n, .slice a m cp] 42)).alloc (.cells #[.int .i64 q0, .int .i64 q1] 29)) 29 #[.int .i64 0, .int .i64 0]
  have B0 := b3 w (.cells #[.int .i64 n, .slice a m cp] 42) (.cells #[.int .i64 q0, .int .i64 q1] 29) (.cells #[.int .i64 0, .int .i64 0] 29)
  replace X0 := X0.alloc (.cells #[.int .i64 0, .int .i64 0] 29)
  replace Y0 := Y0.alloc (.cells #[.int .i64 0, .int .i64 0] 29)
  simp only [World.size_alloc] at Y0 Z0
  generalize (((w.alloc (.cells #[.int .i64 n, .slice a m cp] 42)).alloc (.cells #[.int .i64 q0, .int .i64 q1] 29)).alloc (.cells #[.int .i64 0, .int .i64 0] 29)) = W0 at *
  go_loopw [5, 9] (fun v i wr => ∃ t : Nat, t ≤ n ∧ i = .int .i64 t ∧ wr.ownsRow (w.heap.size + 3) 3 1 v (tipsT n L (q0, q1) t).length (lI (lC (tipsT n L (q0, q1) t))) ∧ Blk wr w.heap.size 42 #[.int .i64 n, .slice a m cp] ∧ Blk wr (w.heap.size + 1) 29 #[.int .i64 q0, .int .i64 q1] ∧ Blk wr (w.heap.size + 1 + 1) 29 #[.int .i64 0, .int .i64 0] ∧ Below w.heap.size w wr) (fun _ i _ => n - (intOf i).toNat)
  case atStart => exact ⟨0, by omega, rfl, World.ownsRow_nil _ _ _ _, X0, Y0, Z0, B0⟩
  case round =>
    clear X0 Y0 Z0 B0
    obtain ⟨t, ht, rfl, hown, X0, Y0, Z0, B0⟩ := hrel
    by_cases hlt : t < n
    · have hi1 : (t : Int) < (n : Int) := by omega
      have hs := Lib.hid (tipsT_succ n L (q0, q1) t)
      have hlen := tipsT_len n L (q0, q1) t
      have J0t := J0.out t
      have J1t := J1.out t
      have x0 := X0.c 0 rfl
      have x1 := X0.c 1 rfl
      have y0 := Y0.c 0 rfl
      have y1 := Y0.c 1 rfl
      cases g1 : decide (NearP n L t q0)
      all_goals rw [g1] at J0t
      · clear J1t
        replace g1 := Lib.hid g1
        go_wp2_with (go_at_call 25; refine (J0t _ B0 (by omega)).mono ?_; rintro e w1 ⟨rfl, hb1⟩; clear x0 x1 y0 y1; replace hown := owns_next hown hb1; replace X0 := X0.ext hb1; replace Y0 := Y0.ext hb1; replace Z0 := Z0.ext hb1; replace B0 := nextB B0 hb1; have x0 := X0.c 0 rfl; have x1 := X0.c 1 rfl; have y0 := Y0.c 0 rfl; have y1 := Y0.c 1 rfl)
        clear x0 x1 y0 y1
        go_roundw
        case rel => exact ⟨t + 1, by omega, by go_num, by rw [hs.out, if_neg (by have := g1.out; simp [tipB, this]), List.append_nil]; exact hown, X0, Y0, Z0, B0⟩
        case measure => simp [intOf]; omega
      · cases g2 : decide (NearP n L t q1)
        all_goals rw [g2] at J1t
        · replace g1 := Lib.hid g1
          replace g2 := Lib.hid g2
          go_wp2_with (first
            | (go_at_call 25; (with_reducible refine (J0t _ B0 (by omega)).mono ?_); rintro e w1 ⟨rfl, hb1⟩; clear x0 x1 y0 y1; replace hown := owns_next hown hb1; replace X0 := X0.ext hb1; replace Y0 := Y0.ext hb1; replace Z0 := Z0.ext hb1; replace B0 := nextB B0 hb1; have x0 := X0.c 0 rfl; have x1 := X0.c 1 rfl; have y0 := Y0.c 0 rfl; have y1 := Y0.c 1 rfl)
            | (go_at_call 25; (with_reducible refine (J1t _ B0 (by omega)).mono ?_); rintro e w1 ⟨rfl, hb1⟩; clear x0 x1 y0 y1; replace hown := owns_next hown hb1; replace X0 := X0.ext hb1; replace Y0 := Y0.ext hb1; replace Z0 := Z0.ext hb1; replace B0 := nextB B0 hb1; have x0 := X0.c 0 rfl; have x1 := X0.c 1 rfl; have y0 := Y0.c 0 rfl; have y1 := Y0.c 1 rfl))
          clear x0 x1 y0 y1
          go_roundw
          case rel => exact ⟨t + 1, by omega, by go_num, by rw [hs.out, if_neg (by have := g2.out; simp [tipB, this]), List.append_nil]; exact hown, X0, Y0, Z0, B0⟩
          case measure => simp [intOf]; omega
        · replace g1 := Lib.hid g1
          replace g2 := Lib.hid g2
          go_wp2_with (first
            | (go_at_call 25; (with_reducible refine (J0t _ B0 (by omega)).mono ?_); rintro e w1 ⟨rfl, hb1⟩; clear x0 x1 y0 y1; replace hown := owns_next hown hb1; replace X0 := X0.ext hb1; replace Y0 := Y0.ext hb1; replace Z0 := Z0.ext hb1; replace B0 := nextB B0 hb1; have x0 := X0.c 0 rfl; have x1 := X0.c 1 rfl; have y0 := Y0.c 0 rfl; have y1 := Y0.c 1 rfl)
            | (go_at_call 25; (with_reducible refine (J1t _ B0 (by omega)).mono ?_); rintro e w1 ⟨rfl, hb1⟩; clear x0 x1 y0 y1; replace hown := owns_next hown hb1; replace X0 := X0.ext hb1; replace Y0 := Y0.ext hb1; replace Z0 := Z0.ext hb1; replace B0 := nextB B0 hb1; have x0 := X0.c 0 rfl; have x1 := X0.c 1 rfl; have y0 := Y0.c 0 rfl; have y1 := Y0.c 1 rfl)
            | (at_builtin; refine wpList_append_own _ rfl _ _ 35 rfl (w.heap.size + 3) 3 i0 (.int .i64 0) 1 8 Try.underlying35 G0.out G1.out G2.out G3.out rfl (by decide) _ _ _ rfl (hown.alloc _) ⟨_, 0, none⟩ 1 1 [.int .i64 (t : Int)] rfl rfl (cell_one_new _ _ _) (by simp [Value.oneCell']) (by unfold maxLen; omega) (by omega) (by have := Z0.lt; simp; omega) ?_; intro v' w2 hown2 hgrow _))
          clear x0 x1 y0 y1
          have hz := B0.size
          have B2 := (B0.alloc hz _).grown hgrow (by simp; omega) (fun q hq => by have := (hown.lt q hq).1; omega)
          have X2 := (X0.alloc _).grown hgrow (own_ne hown (by omega))
          have Y2 := (Y0.alloc _).grown hgrow (own_ne hown (by omega))
          have Z2 := (Z0.alloc _).grown hgrow (own_ne hown (by omega))
          go_roundw
          case rel => exact ⟨t + 1, by omega, by go_num, by rw [hs.out, if_pos (by have := g1.out; have := g2.out; simp [tipB, *]), lC_append]; simpa [lI, lC] using hown2, X2, Y2, Z2, B2⟩
          case measure => simp [intOf]; omega
    · obtain rfl : t = n := by omega
      have htl : 2 ≤ (tipsT t L (q0, q1) t).length := htip.out
      have hlc : (lC (tipsT t L (q0, q1) t)).length = (tipsT t L (q0, q1) t).length := lC_length _
      obtain ⟨av, cv, rfl, hcv, hints⟩ := own_intsA hown hlc
      obtain ⟨bt, offt, rfl, hct⟩ := ints_at hints (by omega)
      have q0' := hct 0 (by omega)
      have q1' := hct 1 (by omega)
      rw [Nat.add_zero] at q0'
      have ho1 := Lib.hid (show (otherL t L (q0, q1)).1 = min (nth (lC (tipsT t L (q0, q1) t)) 0) (nth (lC (tipsT t L (q0, q1) t)) 1) from rfl)
      have ho2 := Lib.hid (show (otherL t L (q0, q1)).2 = max (nth (lC (tipsT t L (q0, q1) t)) 0) (nth (lC (tipsT t L (q0, q1) t)) 1) from rfl)
      have z0 := cellX q0'
      have z1 := cellX q1'
      have i1 : (0 : Int) < ((tipsT t L (q0, q1) t).length : Int) := by omega
      have i2 : (1 : Int) < ((tipsT t L (q0, q1) t).length : Int) := by omega
      clear q0' q1' hct hints hown htip hlc
      generalize nth (lC (tipsT t L (q0, q1) t)) 0 = u0 at *
      generalize nth (lC (tipsT t L (q0, q1) t)) 1 = u1 at *
      generalize (tipsT t L (q0, q1) t).length = tl at *
      generalize otherL t L (q0, q1) = oo at *
      go_wp2
      refine wp_region_ext_tail 7 (by kernel_rfl) (by kernel_rfl) ?_
      simp only [List.take_succ_cons, List.take_zero, List.drop_succ_cons, List.drop_zero]
      repeat (go_big_quiet_step ((go_at_call 26; exact callE (lineOf_any _ _ _))))
      refine wpQuiet_nil ?_
      rintro ⟨w1, hw1⟩
      dsimp only
      replace B0 := nextB B0 hw1
      replace Z0 := Z0.ext hw1
      have r0 := Z0.c 0 rfl
      have r1 := Z0.c 1 rfl
      have f0 := Z0.fr 0
      have f1 := Z0.fr 1
      have hlt1 := Z0.lt
      clear z0 z1 hw1 X0 Y0
      go_wp2
      refine bodyPost_ret (v := .agg #[.int .i64 (min u0 u1), .int .i64 (max u0 u1)]) (by simp [results, Try.results14, go_sem, r0, r1]) rfl ?_
      exact Ret.mk (by rw [ho1.out, ho2.out]) ((B0.setCell (by simp; omega) _).setCell (by simp; omega) _)
end
section
open Go Go.RowKit

/-- The brand with another line in the place of line i. -/
def flipL (n : Nat) (L : List (Int × Int)) (i : Nat) : List (Int × Int) := sortL (L.take i ++ (L.drop (i + 1) ++ [otherL n L (pth L i)]))
theorem flipL_length (n : Nat) (L : List (Int × Int)) (i : Nat) (h : i < L.length) : (flipL n L i).length = L.length := by
  rw [flipL, sortL_length]
  simp
  omega
theorem pth_take {L : List (Int × Int)} {i j : Nat} (h : j < i) : pth (L.take i) j = pth L j := by
  unfold pth
  rw [List.getD_eq_getElem?_getD, List.getD_eq_getElem?_getD, List.getElem?_take, if_pos h]
theorem pth_drop {L : List (Int × Int)} {i j : Nat} : pth (L.drop i) j = pth L (i + j) := by
  unfold pth
  rw [List.getD_eq_getElem?_getD, List.getD_eq_getElem?_getD, List.getElem?_drop]
set_option maxRecDepth 100000 in
set_option maxHeartbeats 1600000 in
theorem Flip_no (n : Int) (a : Option Addr) (m c : Nat) (L : List (Int × Int)) (i : Int) (w : World) (h : Prs w a L) (hl : L.length = m) (hcap : m ≤ c) (hm : m ≤ 4611686018427387904) (hno : ¬ BrandP n L ∨ i < 0 ∨ (m : Int) ≤ i) :
    Calls Try.prog 7 #[.int .i64 n, .slice a m c, .int .i64 i] w (Ret (.tuple #[.slice none 0 0, .int .i64 2]) w) := by
  by_cases hB : BrandP n L
  · have K := Lib.hid (brandOf_yes n a m c L w h hl hcap hB)
    have hi := hno.resolve_left (fun h => h hB)
    clear hB hl h hno
    rcases hi with hi | hi
    all_goals
      go_enter Try.func7, Try.ntmps7
      go_wp2_with (go_at_call 13; refine K.out.mono ?_; rintro e w1 ⟨rfl, hb1⟩)
      go_ret2
      exact Ret.mk rfl (nextB hb1 (b1 _ _))
  · have K := Lib.hid (brandOf_not n a m c L w h hl hcap hm hB)
    clear hB hl h hno
    go_enter Try.func7, Try.ntmps7
    go_wp2_with (go_at_call 13; refine K.out.mono ?_; rintro e w1 ⟨rfl, hb1⟩)
    go_ret2
    exact Ret.mk rfl (nextB hb1 (b1 _ _))
/-- What Flip returns. -/
def GotF (n : Nat) (L : List (Int × Int)) (i : Nat) (w : World) (e : Ending) (w' : World) : Prop :=
  ∃ a c, e = .returned (.tuple #[.slice a L.length c, .int .i64 0]) ∧ Prs w' a (flipL n L i) ∧ L.length ≤ c ∧ Below w.heap.size w w'
set_option maxRecDepth 100000 in
set_option maxHeartbeats 4000000 in
theorem Flip_yes (n : Nat) (a : Option Addr) (m c : Nat) (L : List (Int × Int)) (i : Nat) (w : World) (h : Prs w a L) (hl : L.length = m) (hcap : m ≤ c) (hB : BrandP n L) (hi : i < m) (htip : 2 ≤ (tipsL n L (pth L i)).length) :
    Calls Try.prog 7 #[.int .i64 n, .slice a m c, .int .i64 i] w (GotF n L i w) := by
  have hn : n ≤ 12 := by have := hB.2.1; omega
  have hn3 : 3 ≤ n := by have := hB.1; omega
  have hm9 : m ≤ 9 := by have := hB.2.2.1; omega
  have hline := (hB.2.2.2 i (by omega)).1
  have K := Lib.hid (brandOf_yes n a m c L w h hl hcap hB)
  have A := Lib.hid (fun W (hW : Below w.heap.size w W) => across_any n a m c L (pth L i).1 (pth L i).2 W (h.next hW) hl (by omega) (by omega) hn hline.1 (by have := hline.2.1; have := hline.2.2.1; omega) (by have := hline.1; have := hline.2.1; omega) (by have := hline.2.2.1; omega) htip)
  obtain ⟨b, off, rfl, hc⟩ := prs_at h (by omega)
  rw [hl] at hc
  replace hc := Lib.hid hc
  replace hl := Lib.hid hl
  clear h htip hB hline
  obtain ⟨c0, c1⟩ := hc.out i hi
  have hi1 : (i : Int) < (m : Int) := by omega
  go_enter Try.func7, Try.ntmps7
  go_wp2_with (go_at_call 13; refine K.out.mono ?_; rintro e w1 ⟨rfl, hb1⟩)
  have B0 := nextB hb1 (b1 w1 (.cells #[.int .i64 n, .slice (some ⟨b, off, none⟩) m c] 42))
  have X0 := Blk.new w1 42 #[.int .i64 n, .slice (some ⟨b, off, none⟩) m c]
  generalize hW : w1.alloc (.cells #[.int .i64 n, .slice (some ⟨b, off, none⟩) m c] 42) = W at *
  clear hW hb1
  generalize w1.heap.size = z at *
  have x0 := cellX (cellB B0 c0)
  have x1 := cellX (cellB B0 c1)
  have y0 := cellX (X0.c 0 rfl)
  have y1 := cellX (X0.c 1 rfl)
  have AE := Lib.hid (fun (x : Ext W) => A.out x.world (nextB B0 x.ok))
  clear c0 c1
  refine wp_region_ext_tail 6 (by kernel_rfl) (by kernel_rfl) ?_
  simp only [List.take_succ_cons, List.take_zero, List.drop_succ_cons, List.drop_zero]
  repeat (go_big_quiet_step ((go_at_call 14; exact callE (AE.out _))))
  refine wpQuiet_nil ?_
  rintro ⟨w2, hw2⟩
  dsimp only
  replace B0 := nextB B0 hw2
  clear x0 x1 y0 y1 hw2 X0 AE A
  have hflip := Lib.hid (show flipL n L i = sortL (L.take i ++ (L.drop (i + 1) ++ [otherL n L (pth L i)])) from rfl)
  change Hid (flipL n L i = sortL (L.take i ++ (L.drop (i + 1) ++ [otherL n L ((pth L i).1, (pth L i).2)]))) at hflip
  generalize otherL n L ((pth L i).1, (pth L i).2) = oo at *
  go_wp2
  have OB := Blk.new w2 29 #[.int .i64 oo.1, .int .i64 oo.2]
  have BO := b1 w2 (.cells #[.int .i64 oo.1, .int .i64 oo.2] 29)
  generalize hWO : w2.alloc (.cells #[.int .i64 oo.1, .int .i64 oo.2] 29) = WO at *
  clear hWO
  have B0' := nextB B0 BO
  clear BO
  have BO := Below.refl WO.heap.size WO
  replace B0 := B0'
  clear B0'
  generalize w2.heap.size = zo at *
  have i1 : (i : Int) + 1 ≤ (m : Int) := by omega
  have i2 : (0 : Int) ≤ (i : Int) + 1 := by omega
  have i3 : ((i : Int) + 1).toNat = i + 1 := by omega
  have i4 : i ≤ c := by omega
  have i5 : i + 1 ≤ c := by omega
  by_cases hcc : c = i + 1
  · obtain rfl : m = i + 1 := by omega
    subst hcc
    refine wp_region_ext_tail 8 (by kernel_rfl) (by kernel_rfl) ?_
    simp only [List.take_succ_cons, List.take_zero, List.drop_succ_cons, List.drop_zero]
    repeat (go_big_quiet_step (fail))
    refine wpQuiet_nil ?_
    rintro ⟨w3, hw3⟩
    dsimp only
    have B1 := nextB B0 (nextB BO hw3)
    have O1 := OB.ext hw3
    go_wp2_with fail
    have hP := Blk.new w3 27 #[.slice (some ⟨b, off, none⟩) i (i + 1), .slice (some ⟨b, off, none⟩) 0 0, .slice (some ⟨zo, 0, none⟩) 1 1]
    refine calls_at (F := fun W => Below w3.heap.size w3 W ∧ Blk W w3.heap.size 27 #[.slice (some ⟨b, off, none⟩) i (i + 1), .slice (some ⟨b, off, none⟩) 0 0, .slice (some ⟨zo, 0, none⟩) 1 1]) ⟨b1 _ _, hP⟩ ?_
    clear hP
    rintro W3 ⟨C3, hP⟩
    have B3 := nextB B1 C3
    have O3 := O1.ext C3
    have k1 : PartOk W3 ⟨some ⟨b, off, none⟩, i, i + 1, L.take i⟩ := ⟨.inr ⟨b, off, rfl, fun j hj => by
        have hj' : j < i := by rw [List.length_take] at hj; omega
        rw [pth_take hj']
        have := hc.out j (by omega)
        exact ⟨cellB B3 this.1, cellB B3 this.2⟩⟩, by show (L.take i).length = i; rw [List.length_take, hl.out]; exact Nat.min_eq_left (by omega), fun h => by cases h⟩
    have k2 : PartOk W3 ⟨some ⟨b, off, none⟩, 0, 0, L.drop (i + 1)⟩ := ⟨.inl (by show (L.drop (i + 1)).length = 0; rw [List.length_drop, hl.out]; omega), by show (L.drop (i + 1)).length = 0; rw [List.length_drop, hl.out]; omega, fun h => by cases h⟩
    have k3 : PartOk W3 ⟨some ⟨zo, 0, none⟩, 1, 1, [oo]⟩ := ⟨.inr ⟨zo, 0, rfl, fun j hj => by
        obtain rfl : j = 0 := by simpa using hj
        exact ⟨O3.c 0 rfl, O3.c 1 rfl⟩⟩, rfl, fun h => by cases h⟩
    have hall : allP [⟨some ⟨b, off, none⟩, i, i + 1, L.take i⟩, ⟨some ⟨b, off, none⟩, 0, 0, L.drop (i + 1)⟩, ⟨some ⟨zo, 0, none⟩, 1, 1, [oo]⟩] = L.take i ++ (L.drop (i + 1) ++ [oo]) := by simp [allP]
    have hlen : (L.take i ++ (L.drop (i + 1) ++ [oo])).length = L.length := by have := hl.out; simp; omega
    have z1 : ∀ t, t < 3 → W3.cell? ⟨w3.heap.size, t, none⟩ = some (.slice (pat [⟨some ⟨b, off, none⟩, i, i + 1, L.take i⟩, ⟨some ⟨b, off, none⟩, 0, 0, L.drop (i + 1)⟩, ⟨some ⟨zo, 0, none⟩, 1, 1, [oo]⟩] t).a (pat [⟨some ⟨b, off, none⟩, i, i + 1, L.take i⟩, ⟨some ⟨b, off, none⟩, 0, 0, L.drop (i + 1)⟩, ⟨some ⟨zo, 0, none⟩, 1, 1, [oo]⟩] t).n (pat [⟨some ⟨b, off, none⟩, i, i + 1, L.take i⟩, ⟨some ⟨b, off, none⟩, 0, 0, L.drop (i + 1)⟩, ⟨some ⟨zo, 0, none⟩, 1, 1, [oo]⟩] t).c) := by
      intro t ht
      have : t = 0 ∨ t = 1 ∨ t = 2 := by omega
      rcases this with rfl | rfl | rfl
      · exact hP.c 0 rfl
      · exact hP.c 1 rfl
      · exact hP.c 2 rfl
    have z2 : ∀ t, t < 3 → PartOk W3 (pat [⟨some ⟨b, off, none⟩, i, i + 1, L.take i⟩, ⟨some ⟨b, off, none⟩, 0, 0, L.drop (i + 1)⟩, ⟨some ⟨zo, 0, none⟩, 1, 1, [oo]⟩] t) := by
      intro t ht
      have : t = 0 ∨ t = 1 ∨ t = 2 := by omega
      rcases this with rfl | rfl | rfl
      · exact k1
      · exact k2
      · exact k3
    have SR := sorted_any w3.heap.size 3 3 _ W3 rfl (by omega) (by rw [hall, hlen, hl.out]; omega) z1 z2
    rw [hall, hlen] at SR
    refine SR.mono ?_
    rintro e w4 ⟨a4, c4, rfl, hown4, hp4, hc4, hb4⟩
    dsimp only
    have B4 := nextB B3 hb4
    clear SR z1 z2 hall hlen k1 k2 k3 O3 hP C3 O1 hw3 OB BO B1 B3 hb4
    go_wp2
    go_ret2
    exact ⟨a4, c4, rfl, by rw [hflip.out]; exact hp4, hc4, B4⟩
  · skip
    refine wp_region_ext_tail 8 (by kernel_rfl) (by kernel_rfl) ?_
    simp only [List.take_succ_cons, List.take_zero, List.drop_succ_cons, List.drop_zero]
    repeat (go_big_quiet_step (fail))
    refine wpQuiet_nil ?_
    rintro ⟨w3, hw3⟩
    dsimp only
    have B1 := nextB B0 (nextB BO hw3)
    have O1 := OB.ext hw3
    go_wp2_with fail
    have hP := Blk.new w3 27 #[.slice (some ⟨b, off, none⟩) i c, .slice (some ⟨b, off + (i + 1) * 2, none⟩) (m - (i + 1)) (c - (i + 1)), .slice (some ⟨zo, 0, none⟩) 1 1]
    refine calls_at (F := fun W => Below w3.heap.size w3 W ∧ Blk W w3.heap.size 27 #[.slice (some ⟨b, off, none⟩) i c, .slice (some ⟨b, off + (i + 1) * 2, none⟩) (m - (i + 1)) (c - (i + 1)), .slice (some ⟨zo, 0, none⟩) 1 1]) ⟨b1 _ _, hP⟩ ?_
    clear hP
    rintro W3 ⟨C3, hP⟩
    have B3 := nextB B1 C3
    have O3 := O1.ext C3
    have k1 : PartOk W3 ⟨some ⟨b, off, none⟩, i, c, L.take i⟩ := ⟨.inr ⟨b, off, rfl, fun j hj => by
        have hj' : j < i := by rw [List.length_take] at hj; omega
        rw [pth_take hj']
        have := hc.out j (by omega)
        exact ⟨cellB B3 this.1, cellB B3 this.2⟩⟩, by show (L.take i).length = i; rw [List.length_take, hl.out]; exact Nat.min_eq_left (by omega), fun h => by cases h⟩
    have k2 : PartOk W3 ⟨some ⟨b, off + (i + 1) * 2, none⟩, m - (i + 1), c - (i + 1), L.drop (i + 1)⟩ := ⟨.inr ⟨b, off + (i + 1) * 2, rfl, fun j hj => by
        have hj' : i + 1 + j < m := by rw [List.length_drop, hl.out] at hj; omega
        rw [pth_drop]
        have := hc.out (i + 1 + j) hj'
        rw [show off + (i + 1) * 2 + j * 2 = off + (i + 1 + j) * 2 by omega]
        exact ⟨cellB B3 this.1, cellB B3 this.2⟩⟩, by rw [List.length_drop, hl.out], fun h => by cases h⟩
    have k3 : PartOk W3 ⟨some ⟨zo, 0, none⟩, 1, 1, [oo]⟩ := ⟨.inr ⟨zo, 0, rfl, fun j hj => by
        obtain rfl : j = 0 := by simpa using hj
        exact ⟨O3.c 0 rfl, O3.c 1 rfl⟩⟩, rfl, fun h => by cases h⟩
    have hall : allP [⟨some ⟨b, off, none⟩, i, c, L.take i⟩, ⟨some ⟨b, off + (i + 1) * 2, none⟩, m - (i + 1), c - (i + 1), L.drop (i + 1)⟩, ⟨some ⟨zo, 0, none⟩, 1, 1, [oo]⟩] = L.take i ++ (L.drop (i + 1) ++ [oo]) := by simp [allP]
    have hlen : (L.take i ++ (L.drop (i + 1) ++ [oo])).length = L.length := by have := hl.out; simp; omega
    have z1 : ∀ t, t < 3 → W3.cell? ⟨w3.heap.size, t, none⟩ = some (.slice (pat [⟨some ⟨b, off, none⟩, i, c, L.take i⟩, ⟨some ⟨b, off + (i + 1) * 2, none⟩, m - (i + 1), c - (i + 1), L.drop (i + 1)⟩, ⟨some ⟨zo, 0, none⟩, 1, 1, [oo]⟩] t).a (pat [⟨some ⟨b, off, none⟩, i, c, L.take i⟩, ⟨some ⟨b, off + (i + 1) * 2, none⟩, m - (i + 1), c - (i + 1), L.drop (i + 1)⟩, ⟨some ⟨zo, 0, none⟩, 1, 1, [oo]⟩] t).n (pat [⟨some ⟨b, off, none⟩, i, c, L.take i⟩, ⟨some ⟨b, off + (i + 1) * 2, none⟩, m - (i + 1), c - (i + 1), L.drop (i + 1)⟩, ⟨some ⟨zo, 0, none⟩, 1, 1, [oo]⟩] t).c) := by
      intro t ht
      have : t = 0 ∨ t = 1 ∨ t = 2 := by omega
      rcases this with rfl | rfl | rfl
      · exact hP.c 0 rfl
      · exact hP.c 1 rfl
      · exact hP.c 2 rfl
    have z2 : ∀ t, t < 3 → PartOk W3 (pat [⟨some ⟨b, off, none⟩, i, c, L.take i⟩, ⟨some ⟨b, off + (i + 1) * 2, none⟩, m - (i + 1), c - (i + 1), L.drop (i + 1)⟩, ⟨some ⟨zo, 0, none⟩, 1, 1, [oo]⟩] t) := by
      intro t ht
      have : t = 0 ∨ t = 1 ∨ t = 2 := by omega
      rcases this with rfl | rfl | rfl
      · exact k1
      · exact k2
      · exact k3
    have SR := sorted_any w3.heap.size 3 3 _ W3 rfl (by omega) (by rw [hall, hlen, hl.out]; omega) z1 z2
    rw [hall, hlen] at SR
    refine SR.mono ?_
    rintro e w4 ⟨a4, c4, rfl, hown4, hp4, hc4, hb4⟩
    dsimp only
    have B4 := nextB B3 hb4
    clear SR z1 z2 hall hlen k1 k2 k3 O3 hP C3 O1 hw3 OB BO B1 B3 hb4
    go_wp2
    go_ret2
    exact ⟨a4, c4, rfl, by rw [hflip.out]; exact hp4, hc4, B4⟩
end
section
open Go Go.RowKit

theorem sq_brand : BrandP (4 : Nat) [(0, 2)] := by decide
theorem sq_round : roundL 4 [(0, 2)] = [2, 1, 2, 1] := by decide
theorem pent_round : RoundP [1, 3, 1, 2, 2] := by decide
theorem pent_of : ofL [1, 3, 1, 2, 2] = some [(1, 3), (1, 4)] := by decide +kernel
theorem sq_flip : flipL 4 [(0, 2)] 0 = [(1, 3)] := by decide +kernel
theorem sq_tips : 2 ≤ (tipsL 4 [(0, 2)] (pth [(0, 2)] 0)).length := by decide
theorem sq_tris : (tris 4 [(0, 2)]).length ≤ 20 := by decide
theorem sq_choices : choF (tris 4 [(0, 2)]) (btw 4 1 3) 0 = 2 := by decide +kernel
theorem prs_new (w : World) (t : TypeId) (L : List (Int × Int)) (cs : Array Value) (h : cs.toList = cP L) : Prs (w.alloc (.cells cs t)) (some ⟨w.heap.size, 0, none⟩) L := by
  refine .inr ⟨_, 0, rfl, fun i hi => ?_⟩
  obtain ⟨h1, h2⟩ := cP_at L i hi
  rw [← h, Array.getElem?_toList] at h1 h2
  have hb := Blk.new w t cs
  exact ⟨by rw [Nat.zero_add]; exact hb.c _ h1, by rw [Nat.zero_add]; exact hb.c _ h2⟩
theorem ints_new (w : World) (t : TypeId) (xs : List Int) (cs : Array Value) (h : cs.toList = lI xs) : Ints (w.alloc (.cells cs t)) (some ⟨w.heap.size, 0, none⟩) xs := by
  refine .inr ⟨_, 0, rfl, fun i hi => ?_⟩
  have h1 := lI_get hi
  rw [← h, Array.getElem?_toList] at h1
  rw [Nat.zero_add]
  exact (Blk.new w t cs).c _ h1
theorem blk_ints {w : World} {g : Nat} {t : TypeId} {xs : List Int} (h : Blk w g t (cI xs)) : Ints w (some ⟨g, 0, none⟩) xs := .inr ⟨g, 0, rfl, fun i hi => by rw [Nat.zero_add]; exact h.i i hi⟩

set_option maxRecDepth 100000 in
set_option maxHeartbeats 4000000 in
theorem alive_any (w : World) : Calls Try.prog 6 #[] w (Ret (.bool true) w) := by
  go_enter Try.func6, Try.ntmps6
  go_wp2_with fail
  have HP := prs_new w 29 [(0, 2)] #[.int .i64 0, .int .i64 2] rfl
  refine calls_at (F := fun W => Below w.heap.size w W ∧ Prs W (some ⟨w.heap.size, 0, none⟩) [(0, 2)]) ⟨b1 _ _, HP⟩ ?_
  clear HP
  rintro W ⟨B, HP⟩
  refine (Round_yes 4 _ 1 1 [(0, 2)] W HP rfl (by omega) sq_brand).mono ?_
  rintro e w1 ⟨g1, rfl, hr, hg1, hb1⟩
  rw [sq_round] at hr
  replace hr := blk_ints hr
  replace B := nextB B hb1
  clear HP hb1 hg1
  dsimp only
  go_wp2_with fail
  have HI := ints_new w1 3 [1, 3, 1, 2, 2] #[.int .i64 1, .int .i64 3, .int .i64 1, .int .i64 2, .int .i64 2] rfl
  refine calls_at (F := fun W => Below w1.heap.size w1 W ∧ Ints W (some ⟨w1.heap.size, 0, none⟩) [1, 3, 1, 2, 2]) ⟨b1 _ _, HI⟩ ?_
  clear HI
  rintro W2 ⟨C, HI⟩
  refine (Of_yes _ 5 5 [1, 3, 1, 2, 2] W2 HI rfl pent_round).mono ?_
  rintro e w2 ⟨hb2, ⟨ho, _⟩ | ⟨M, a2, c2, ho, rfl, hp2, hc2, _⟩⟩
  · rw [pent_of] at ho; cases ho
  rw [pent_of] at ho
  cases ho
  replace B := nextB B (nextB C hb2)
  replace hr := (hr.next C).next hb2
  clear HI C hb2
  dsimp only
  go_wp2_with fail
  have HP := prs_new w2 29 [(0, 2)] #[.int .i64 0, .int .i64 2] rfl
  refine calls_at (F := fun W => Below w2.heap.size w2 W ∧ Prs W (some ⟨w2.heap.size, 0, none⟩) [(0, 2)]) ⟨b1 _ _, HP⟩ ?_
  clear HP
  rintro W3 ⟨C, HP⟩
  refine (Flip_yes 4 _ 1 1 [(0, 2)] 0 W3 HP rfl (by omega) sq_brand (by omega) sq_tips).mono ?_
  rintro e w3 ⟨a3, c3, rfl, hp3, hc3, hb3⟩
  rw [sq_flip] at hp3
  replace B := nextB B (nextB C hb3)
  replace hr := (hr.next C).next hb3
  replace hp2 := (hp2.next C).next hb3
  clear HP C hb3
  dsimp only
  go_wp2_with fail
  refine (Count_in 6 _ (by omega) (by omega)).mono ?_
  rintro e w4 ⟨rfl, rfl⟩
  rw [show catT (6 - 2) = 14 from rfl]
  dsimp only
  go_wp2_with fail
  have HP := prs_new w3 29 [(0, 2)] #[.int .i64 0, .int .i64 2] rfl
  refine calls_at (F := fun W => Below w3.heap.size w3 W ∧ Prs W (some ⟨w3.heap.size, 0, none⟩) [(0, 2)]) ⟨b1 _ _, HP⟩ ?_
  clear HP
  rintro W5 ⟨C, HP⟩
  refine (Choices_yes 4 1 3 _ 1 1 [(0, 2)] W5 HP rfl (by omega) sq_brand (by omega) (by omega) (by omega) sq_tris).mono ?_
  rintro e w5 ⟨rfl, hb5⟩
  rw [sq_choices]
  replace B := nextB B (nextB C hb5)
  replace hr := (hr.next C).next hb5
  replace hp2 := (hp2.next C).next hb5
  replace hp3 := (hp3.next C).next hb5
  clear HP C hb5
  dsimp only
  go_wp2_with fail
  have HI := ints_new w5 3 [2, 1, 2, 1] #[.int .i64 2, .int .i64 1, .int .i64 2, .int .i64 1] rfl
  refine calls_at (F := fun W => Below w5.heap.size w5 W ∧ Ints W (some ⟨w5.heap.size, 0, none⟩) [2, 1, 2, 1]) ⟨b1 _ _, HI⟩ ?_
  clear HI
  rintro W6 ⟨C, HI⟩
  have S := same_any _ _ 4 4 4 4 _ _ W6 (hr.next C) HI rfl rfl (by omega) (by omega)
  rw [decide_eq_true rfl] at S
  refine S.mono ?_
  rintro e w6 ⟨rfl, hb6⟩
  replace B := nextB B (nextB C hb6)
  replace hp2 := (hp2.next C).next hb6
  replace hp3 := (hp3.next C).next hb6
  clear HI C hb6 hr S
  dsimp only
  go_wp2_with fail
  have HP := prs_new w6 29 [(1, 3), (1, 4)] #[.int .i64 1, .int .i64 3, .int .i64 1, .int .i64 4] rfl
  refine calls_at (F := fun W => Below w6.heap.size w6 W ∧ Prs W (some ⟨w6.heap.size, 0, none⟩) [(1, 3), (1, 4)]) ⟨b1 _ _, HP⟩ ?_
  clear HP
  rintro W7 ⟨C, HP⟩
  have S := pairs_any _ _ 2 2 c2 2 _ _ W7 (hp2.next C) HP rfl rfl (by omega) (by omega)
  rw [decide_eq_true rfl] at S
  refine S.mono ?_
  rintro e w7 ⟨rfl, hb7⟩
  replace B := nextB B (nextB C hb7)
  replace hp3 := (hp3.next C).next hb7
  clear HP C hb7 hp2 S
  dsimp only
  go_wp2_with fail
  have HP := prs_new w7 29 [(1, 3)] #[.int .i64 1, .int .i64 3] rfl
  refine calls_at (F := fun W => Below w7.heap.size w7 W ∧ Prs W (some ⟨w7.heap.size, 0, none⟩) [(1, 3)]) ⟨b1 _ _, HP⟩ ?_
  clear HP
  rintro W8 ⟨C, HP⟩
  have S := pairs_any _ _ 1 1 c3 1 _ _ W8 (hp3.next C) HP rfl rfl (by omega) (by omega)
  rw [decide_eq_true rfl] at S
  refine S.mono ?_
  rintro e w8 ⟨rfl, hb8⟩
  replace B := nextB B (nextB C hb8)
  clear HP C hb8 hp3 S
  dsimp only
  go_wp2_with fail
  go_ret
  exact Ret.mk rfl B
end
end Go.Proofs.Ytkbdclladfjmcaa
