/- Layer 2: Choices, by the program. -/
import Derived.Test.YtflbaadfbjpakaaCe
namespace Go.Proofs.Ytflbaadfbjpakaa
open Go Go.RowKit

/-- The t-th corner behind i. -/
def cor (n i t : Nat) : Nat := (i + 1 + t) % n
def btwT (n i t : Nat) : List Nat := (List.range t).map (cor n i)
/-- The corners strictly between i and k, around. -/
def btw (n i k : Nat) : List Nat := btwT n i ((k + n - i - 1) % n)
theorem btwT_succ (n i t : Nat) : btwT n i (t + 1) = btwT n i t ++ [cor n i t] := by simp [btwT, List.range_succ]
theorem btwT_length (n i t : Nat) : (btwT n i t).length = t := by simp [btwT]
theorem mod_small {a n : Nat} (h : a < n + n) : a % n = if a < n then a else a - n := by
  split
  · exact Nat.mod_eq_of_lt (by omega)
  · rw [Nat.mod_eq_sub_mod (by omega), Nat.mod_eq_of_lt (by omega)]
theorem cor_at {n i k t : Nat} (hi : i < n) (hk : k < n) (hik : i ≠ k) (ht : t ≤ (k + n - i - 1) % n) : (cor n i t = k ↔ t = (k + n - i - 1) % n) ∧ (k + n - i - 1) % n < n - 1 := by
  have e : (k + n - i - 1) % n = if i < k then k - i - 1 else k + n - i - 1 := by
    rw [mod_small (by omega)]
    split <;> split <;> omega
  rw [e] at ht ⊢
  unfold cor
  rw [mod_small (by split at ht <;> omega)]
  split at ht <;> split <;> (try rw [if_pos (by assumption)]) <;> (try rw [if_neg (by assumption)]) <;> omega
theorem cor_lt {n i t : Nat} (hn : 0 < n) : cor n i t < n := Nat.mod_lt _ hn
theorem lC_append (a b : List Nat) : lC (a ++ b) = lC a ++ lC b := by simp [lC]
theorem lC_btw (n i t : Nat) : lI (lC (btwT n i t)) ++ [.int .i64 (cor n i t : Nat)] = lI (lC (btwT n i (t + 1))) := by
  rw [btwT_succ, lC_append]
  simp [lI, lC]
theorem own_intsA {w : World} {base n : Nat} {e : TypeId} {v : Value} {xs : List Int} (h : w.ownsRow base e 1 v n (lI xs)) (hn : xs.length = n) : ∃ a c, v = .slice a n c ∧ n ≤ c ∧ Ints w a xs := by
  have h0 := h
  rcases h.2 with ⟨rfl, h2⟩ | ⟨g, cap, cur, rfl, hg, hh, hcap, r⟩
  · exact ⟨none, 0, by rw [h2], by omega, .inl (by omega)⟩
  · refine ⟨some ⟨g, 0, none⟩, cap, rfl, hcap, .inr ⟨g, 0, rfl, fun i hi => ?_⟩⟩
    exact (own_ints h0).2 i (by omega)
set_option maxRecDepth 100000 in
set_option maxHeartbeats 4000000 in
theorem Choices_yes (n i k : Nat) (a : Option Addr) (m c : Nat) (L : List (Int × Int)) (w : World) (h : Prs w a L) (hl : L.length = m) (hcap : m ≤ c) (hB : BrandP n L) (hi : i < n) (hk : k < n) (hik : i ≠ k) (hT : (tris n L).length ≤ 20) :
    Calls Try.prog 34 #[.int .i64 n, .slice a m c, .int .i64 i, .int .i64 k] w (Ret (.tuple #[.int .i64 (choF (tris n L) (btw n i k) 0), .int .i64 0]) w) := by
  have hn3 : 3 ≤ n := by have := hB.1; omega
  have hn : n ≤ 12 := by have := hB.2.1; omega
  have K := Lib.hid (brandOf_yes n a m c L w h hl hcap hB)
  have T := Lib.hid (fun W (hW : Below w.heap.size w W) => triangles_any n a m c L W (h.next hW) hl (by have := hB.2.2.1; omega) (by omega) (by omega))
  have C1 := isCorner_any n i
  have C2 := isCorner_any n k
  rw [decide_eq_true (show CornP n i from ⟨by omega, by omega⟩)] at C1
  rw [decide_eq_true (show CornP n k from ⟨by omega, by omega⟩)] at C2
  have ne1 : ((i : Int) == (k : Int)) = false := by rw [beq_eq_false_iff_ne]; omega
  have AF := fun (t : Nat) W (ht : t < n) => after_any n t W (by omega) (by omega) (by omega)
  replace AF := Lib.hid AF
  have hcor := Lib.hid (fun t (ht : t ≤ (k + n - i - 1) % n) => cor_at hi hk hik ht)
  have hd : Hid (btw n i k = btwT n i ((k + n - i - 1) % n)) := Lib.hid rfl
  have hdn := (hcor.out _ (Nat.le_refl _)).2
  generalize (k + n - i - 1) % n = d at *
  obtain ⟨i0, hi0, hz0, hz1, hz2⟩ := info_parts infoInt
  have G0 := Lib.hid hi0
  have G1 := Lib.hid hz0
  have G2 := Lib.hid hz1
  have G3 := Lib.hid hz2
  clear hi0 hz0 hz1 hz2 hB hl h
  have hc0 : Hid (((i : Int) + 1) % (n : Int) = ((cor n i 0 : Nat) : Int)) := by
    show ((i : Int) + 1) % (n : Int) = ((cor n i 0 : Nat) : Int)
    rw [cor, Nat.add_zero, Int.natCast_emod]
    rfl
  have hcs : Hid (∀ t : Nat, ((cor n i t : Nat) + 1 : Int) % (n : Int) = ((cor n i (t + 1) : Nat) : Int)) := Lib.hid (fun t => by
    unfold cor
    have e : ((((i + 1 + t) % n + 1) % n : Nat) : Int) = (((i + 1 + (t + 1)) % n : Nat) : Int) := by
      rw [Nat.mod_add_mod, show i + 1 + t + 1 = i + 1 + (t + 1) by omega]
    rw [← e, Int.natCast_emod]
    rfl)
  go_enter Try.func34, Try.ntmps34
  go_wp2_with (first
    | (go_at_call 48; refine K.out.mono ?_; rintro e w1 ⟨rfl, hb1⟩)
    | (go_at_call 59; (with_reducible refine (C1 _).mono ?_); rintro e w1 ⟨rfl, rfl⟩)
    | (go_at_call 59; (with_reducible refine (C2 _).mono ?_); rintro e w1 ⟨rfl, rfl⟩)
    | (go_at_call 61; refine (AF.out i _ hi).mono ?_; rintro e w1 ⟨rfl, rfl⟩))
  rw [hc0.out]
  clear hc0
  have X0 := Blk.new w1 66 #[.int .i64 n, .slice a m c]
  have B0 := nextB hb1 (b1 w1 (.cells #[.int .i64 n, .slice a m c] 66))
  have hz := hb1.size
  clear hb1
  generalize w1.heap.size = z at *
  go_loopw [12, 13] (fun v x wr => ∃ (t : Nat) (av : Option Addr) (cv : Nat), t ≤ d ∧ x = .int .i64 (cor n i t : Nat) ∧ v = .slice av t cv ∧ wr.ownsRow (z + 1) 3 1 (.slice av t cv) t (lI (lC (btwT n i t))) ∧ Blk wr z 66 #[.int .i64 n, .slice a m c] ∧ Below w.heap.size w wr) (fun v _ _ => n - sliceLen v)
  case atStart => exact ⟨0, none, 0, by omega, rfl, rfl, World.ownsRow_nil _ _ _ _, X0, B0⟩
  case round =>
    clear X0 B0
    obtain ⟨t, av, cv, ht, rfl, rfl, hown, X0, B0⟩ := hrel
    have hct := Lib.hid (hcor.out t ht).1
    have hcl := cor_lt (n := n) (i := i) (t := t) (by omega)
    have hl1 := Lib.hid (lC_btw n i t)
    have hl2 := Lib.hid (show (lC (btwT n i (t + 1))).length = t + 1 by rw [lC_length, btwT_length])
    have hl3 := Lib.hid (show (lC (btwT n i t)).length = t by rw [lC_length, btwT_length])
    have hnext := Lib.hid (hcs.out t)
    have AFt := AF.out (cor n i t)
    by_cases htd : t = d
    · have hck := hct.out.2 htd
      subst htd
      rw [hck]
      have g : ((k : Int) != (k : Int)) = false := by rw [bne_eq_false_iff_eq]
      have x0 := X0.c 0 rfl
      have x1 := X0.c 1 rfl
      obtain ⟨av', cv', e, hcv, hints⟩ := own_intsA hown hl3.out
      cases e
      have hT' := Lib.hid (T.out _ B0)
      replace hints := Lib.hid hints
      go_wp2_with fail
      refine hT'.out.mono ?_
      rintro e w2 ⟨v2, rfl, hown2, hb2⟩
      dsimp only
      obtain ⟨a2, c2, rfl, hc2, htr⟩ := own_trs hown2
      have CH := Lib.hid (choices_any (tris n L) a2 _ c2 rfl hT (btwT n i t) av t cv 0 w2 (btwT_length _ _ _) (by omega) (by decide) hcv htr (hints.out.next hb2))
      replace B0 := nextB B0 hb2
      clear hown2 htr hb2 x0 x1 X0 hown
      go_wp2_with fail
      refine CH.out.mono ?_
      rintro e w3 ⟨rfl, hb3⟩
      dsimp only
      replace B0 := nextB B0 hb3
      go_wp2_with fail
      go_ret2
      exact Ret.mk (by rw [hd.out]; rfl) B0
    · have g : (((cor n i t : Nat) : Int) != (k : Int)) = true := by
        rw [bne_iff_ne]
        have := mt hct.out.1 htd
        omega
      generalize cor n i t = ct at *
      go_wp2_with (first
        | (at_builtin; refine wpList_append_own _ rfl _ _ 30 rfl (z + 1) 3 i0 (.int .i64 0) 1 8 Try.underlying30 G0.out G1.out G2.out G3.out rfl (by decide) _ _ _ rfl (hown.alloc _) ⟨_, 0, none⟩ 1 1 [.int .i64 (ct : Int)] rfl rfl (cell_one_new _ _ _) (by simp [Value.oneCell']) (by unfold maxLen; omega) (by omega) (by have := X0.lt; simp; omega) ?_; intro v' w2 hown2 hgrow _; rw [hl1.out] at hown2; obtain ⟨a2, c2, rfl, _, _⟩ := own_intsA hown2 hl2.out)
        | (go_at_call 61; refine (AFt _ hcl).mono ?_; rintro e w1 ⟨rfl, rfl⟩))
      have hs := B0.size
      have B2 := (B0.alloc hs _).grown hgrow (by simp; omega) (fun q hq => by have := (hown.lt q hq).1; omega)
      have X2 := (X0.alloc _).grown hgrow (own_ne hown (by omega))
      go_roundw
      case rel => exact ⟨t + 1, a2, c2, by omega, by rw [hnext.out], rfl, hown2, X2, B2⟩
      case measure => simp [sliceLen]; omega
end Go.Proofs.Ytflbaadfbjpakaa
