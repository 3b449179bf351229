/- Layer 2: Choices, by both sides. -/
import Derived.Test.YtflbaadfbjpakaaDa
import Derived.Deep.RegionWith
namespace Go.Proofs.Ytflbaadfbjpakaa
open Go Go.RowKit

theorem pth_of {L : List (Int × Int)} {q : Int × Int} (h : q ∈ L) : ∃ i, i < L.length ∧ pth L i = q := by
  obtain ⟨i, hi, rfl⟩ := List.mem_iff_getElem.1 h
  exact ⟨i, hi, by simp [pth, hi]⟩
/-- What IsBrand asks, said of the lines as a set. -/
theorem BrandP.full {n : Int} {L : List (Int × Int)} (h : BrandP n L) : Full n L ∧ SortedP L := by
  obtain ⟨h3, h12, hl, hall⟩ := h
  have hlex : ∀ i j, i < j → j < L.length → LexP (pth L i) (pth L j) := fun i j hij hj => ((hall j hj).2 i hij).1
  refine ⟨⟨⟨fun q hq => ?_, fun p hp q hq hc => ?_, ?_⟩, h3, hl⟩, fun i j hij hj => (hlex i j hij hj).le⟩
  · obtain ⟨i, hi, rfl⟩ := pth_of hq
    exact (hall i hi).1
  · obtain ⟨i, hi, rfl⟩ := pth_of hp
    obtain ⟨j, hj, rfl⟩ := pth_of hq
    rcases Nat.lt_trichotomy i j with h | h | h
    · exact ((hall j hj).2 i h).2 hc
    · subst h; unfold CutP at hc; omega
    · have := hlex j i h hi
      unfold LexP at this; unfold CutP at hc; omega
  · rw [List.nodup_iff_pairwise_ne, List.pairwise_iff_getElem]
    intro i j hi hj hij e
    have := hlex i j hij hj
    rw [pth_get hi, pth_get hj, e] at this
    unfold LexP at this
    omega
theorem full_brand {n : Int} {L : List (Int × Int)} (h : Full n L) (hs : SortedP L) (h12 : n ≤ 12) : BrandP n L := by
  obtain ⟨⟨h1, h2, h3⟩, hn, hl⟩ := h
  refine ⟨hn, h12, hl, fun i hi => ⟨h1 _ (by rw [pth_get hi]; exact List.getElem_mem hi), fun k hk => ⟨?_, ?_⟩⟩⟩
  · have hle := hs k i hk hi
    have hne : pth L k ≠ pth L i := fun e => by
      rw [pth_get hi, pth_get (show k < L.length by omega)] at e
      exact absurd ((List.getElem_inj h3).1 e) (by omega)
    unfold LeP at hle
    unfold LexP at *
    have : (pth L k).1 ≠ (pth L i).1 ∨ (pth L k).2 ≠ (pth L i).2 := by
      refine Classical.byContradiction fun hh => hne (Prod.ext ?_ ?_) <;> omega
    omega
  · exact h2 _ (by rw [pth_get (show k < L.length by omega)]; exact List.getElem_mem _) _ (by rw [pth_get hi]; exact List.getElem_mem hi)
theorem BrandP.tris {n : Nat} {L : List (Int × Int)} (h : BrandP n L) : (tris n L).length + 2 = n := by
  obtain ⟨m, rfl⟩ : ∃ m, n = m + 3 := ⟨n - 3, by have := h.1; omega⟩
  rw [tris_length m h.full.1]
theorem way_btwT {n i k : Nat} (d : Nat) (hne : ∀ t, t < d → cor n i t ≠ k) (hd : cor n i d = k) : ∀ (l s : Nat), s + l = d → Way n (cor n i s) ((List.range' s l).map (cor n i)) k := by
  intro l
  induction l with
  | zero => intro s hs; simp only [List.range'_zero, List.map_nil, Way]; rw [← hd, ← hs]; rfl
  | succ l ih =>
    intro s hs
    rw [List.range'_succ, List.map_cons, way_cons]
    refine ⟨rfl, hne s (by omega), ?_⟩
    have := ih (s + 1) (by omega)
    have e : (cor n i s + 1) % n = cor n i (s + 1) := by unfold cor; rw [Nat.mod_add_mod, show i + 1 + s + 1 = i + 1 + (s + 1) by omega]
    rw [e]
    exact this
theorem way_btw {n i k : Nat} (hi : i < n) (hk : k < n) (hik : i ≠ k) : Way n ((i + 1) % n) (btw n i k) k ∧ (btw n i k).length ≤ n := by
  have h := fun t (ht : t ≤ (k + n - i - 1) % n) => cor_at hi hk hik ht
  have h0 := (h _ (Nat.le_refl _))
  refine ⟨?_, by rw [btw, btwT_length]; omega⟩
  have := way_btwT (n := n) (i := i) (k := k) ((k + n - i - 1) % n) (fun t ht e => by have := (h t (by omega)).1.1 e; omega) (h0.1.2 rfl) ((k + n - i - 1) % n) 0 (by omega)
  rw [btw, btwT, List.range_eq_range']
  exact this
set_option maxRecDepth 100000 in
set_option maxHeartbeats 4000000 in
theorem refChoices_yes (n i k : Nat) (a : Option Addr) (m c : Nat) (L : List (Int × Int)) (w : World) (h : Prs w a L) (hl : L.length = m) (hB : BrandP n L) (hi : i < n) (hk : k < n) (hik : i ≠ k) :
    Calls Try.prog 35 #[.int .i64 n, .slice a m c, .int .i64 i, .int .i64 k] w (Ret (.tuple #[.int .i64 (choF (tris n L) (btw n i k) 0), .int .i64 0]) w) := by
  have hn3 : 3 ≤ n := by have := hB.1; omega
  have hn : n ≤ 12 := by have := hB.2.1; omega
  have hm : m + 3 = n := by have := hB.2.2.1; omega
  have hT := hB.tris
  have K := refIsBrand_any n a m c L w h hl (by omega)
  rw [decide_eq_true hB] at K
  replace K := Lib.hid K
  have T := Lib.hid (fun W (hW : Below w.heap.size w W) => refTriangles_any n a m c L W (h.next hW) hl (by omega) (by omega) (by omega))
  have hw := Lib.hid (way_btw hi hk hik)
  have hlt := Nat.mod_lt (i + 1) (show n > 0 by omega)
  have hnx : Hid (((i : Int) + 1) % (n : Int) = (((i + 1) % n : Nat) : Int)) := Lib.hid (by rw [Int.natCast_emod]; rfl)
  have ne1 : ((i : Int) == (k : Int)) = false := by rw [beq_eq_false_iff_ne]; omega
  have RC := Lib.hid (fun a2 c2 W (htr : Trs W a2 (tris n L)) => show Calls Try.prog 63 #[.int .i64 n, .slice a2 (tris n L).length c2, .int .i64 (((i : Int) + 1) % (n : Int)), .int .i64 k, .int .i64 0] W (Ret (.int .i64 (choF (tris n L) (btw n i k) 0)) W) from by
    rw [hnx.out]
    exact refChoices_any (tris n L) _ _ _ n rfl (by omega) hn3 hn (btw n i k) _ k 0 _ (by have := hw.out.2; have := (cor_at hi hk hik (Nat.le_refl _)).2; rw [btw, btwT_length]; omega) hw.out.1 hlt hk (by decide) htr)
  generalize btw n i k = cs at *
  clear hB hl h hw hnx hlt
  go_enter Try.func35, Try.ntmps35
  go_wp2_with fail
  refine K.out.mono ?_
  rintro e w1 ⟨rfl, hb1⟩
  dsimp only
  go_wp2_with fail
  have hT' := Lib.hid (T.out _ hb1.drew)
  go_region_with (first
    | (go_at_call 53; refine hT'.out.mono ?_; rintro e w2 ⟨v2, rfl, hown2, hb2⟩; obtain ⟨a2, c2, rfl, hc2, htr⟩ := own_trs hown2)
    | (go_at_call 63; refine (RC.out _ _ _ htr).mono ?_; rintro e w3 ⟨rfl, hb3⟩))
  all_goals (
    have B3 := nextB (nextB hb1.drew hb2) hb3
    go_wp2_with fail
    go_ret2
    exact Ret.mk rfl B3)
def ChoP (n : Int) (L : List (Int × Int)) (i k : Int) : Prop := BrandP n L ∧ 0 ≤ i ∧ i < n ∧ 0 ≤ k ∧ k < n ∧ i ≠ k
instance (n L i k) : Decidable (ChoP n L i k) := by unfold ChoP; infer_instance
set_option maxRecDepth 100000 in
set_option maxHeartbeats 4000000 in
theorem refChoices_no (n i k : Int) (a : Option Addr) (m c : Nat) (L : List (Int × Int)) (w : World) (h : Prs w a L) (hl : L.length = m) (hm : m ≤ 4611686018427387904) (hB : ¬ ChoP n L i k) :
    Calls Try.prog 35 #[.int .i64 n, .slice a m c, .int .i64 i, .int .i64 k] w (Ret (.tuple #[.int .i64 0, .int .i64 2]) w) := by
  have K := Lib.hid (refIsBrand_any n a m c L w h hl hm)
  clear hl h
  by_cases hb : BrandP n L
  · rw [decide_eq_true hb] at K
    have hcase : (i < 0) ∨ (0 ≤ i ∧ n ≤ i) ∨ (0 ≤ i ∧ i < n ∧ k < 0) ∨ (0 ≤ i ∧ i < n ∧ 0 ≤ k ∧ n ≤ k) ∨ (0 ≤ i ∧ i < n ∧ 0 ≤ k ∧ k < n ∧ i = k) := by
      unfold ChoP at hB
      refine Classical.byContradiction fun hh => hB ⟨hb, ?_⟩
      omega
    clear hB hb
    rcases hcase with h1 | ⟨h1, h2⟩ | ⟨h1, h2, h3⟩ | ⟨h1, h2, h3, h4⟩ | ⟨h1, h2, h3, h4, rfl⟩
    all_goals (
      go_enter Try.func35, Try.ntmps35
      go_wp2_with (go_at_call 19; refine K.out.mono ?_; rintro e w1 ⟨rfl, hb1⟩)
      go_ret2
      exact Ret.mk rfl hb1)
  · rw [decide_eq_false hb] at K
    clear hB hb
    go_enter Try.func35, Try.ntmps35
    go_wp2_with (go_at_call 19; refine K.out.mono ?_; rintro e w1 ⟨rfl, hb1⟩)
    go_ret2
    exact Ret.mk rfl hb1
set_option maxRecDepth 100000 in
set_option maxHeartbeats 4000000 in
theorem Choices_no (n i k : Int) (a : Option Addr) (m c : Nat) (L : List (Int × Int)) (w : World) (h : Prs w a L) (hl : L.length = m) (hcap : m ≤ c) (hm : m ≤ 4611686018427387904) (hB : ¬ ChoP n L i k) :
    Calls Try.prog 34 #[.int .i64 n, .slice a m c, .int .i64 i, .int .i64 k] w (Ret (.tuple #[.int .i64 0, .int .i64 2]) w) := by
  have C1 := Lib.hid (fun W => isCorner_any n i W)
  have C2 := Lib.hid (fun W => isCorner_any n k W)
  by_cases hb : BrandP n L
  · have K := Lib.hid (brandOf_yes n a m c L w h hl hcap hb)
    have hcase : ¬ CornP n i ∨ (CornP n i ∧ ¬ CornP n k) ∨ (CornP n i ∧ CornP n k ∧ i = k) := by
      unfold ChoP at hB
      unfold CornP
      refine Classical.byContradiction fun hh => hB ⟨hb, ?_⟩
      omega
    clear hB hb hl h
    rcases hcase with h1 | ⟨h1, h2⟩ | ⟨h1, h2, rfl⟩
    · rw [decide_eq_false h1] at C1
      clear h1 C2
      go_enter Try.func34, Try.ntmps34
      go_wp2_with (first
        | (go_at_call 48; refine K.out.mono ?_; rintro e w1 ⟨rfl, hb1⟩)
        | (go_at_call 59; (with_reducible refine (C1.out _).mono ?_); rintro e w1 ⟨rfl, rfl⟩))
      go_ret2
      exact Ret.mk rfl (nextB hb1 (b1 _ _))
    · rw [decide_eq_true h1] at C1
      rw [decide_eq_false h2] at C2
      clear h1 h2
      go_enter Try.func34, Try.ntmps34
      go_wp2_with (first
        | (go_at_call 48; refine K.out.mono ?_; rintro e w1 ⟨rfl, hb1⟩)
        | (go_at_call 59; (with_reducible refine (C1.out _).mono ?_); rintro e w1 ⟨rfl, rfl⟩)
        | (go_at_call 59; (with_reducible refine (C2.out _).mono ?_); rintro e w1 ⟨rfl, rfl⟩))
      go_ret2
      exact Ret.mk rfl (nextB hb1 (b1 _ _))
    · rw [decide_eq_true h1] at C1
      clear h1 h2 C2
      go_enter Try.func34, Try.ntmps34
      go_wp2_with (first
        | (go_at_call 48; refine K.out.mono ?_; rintro e w1 ⟨rfl, hb1⟩)
        | (go_at_call 59; (with_reducible refine (C1.out _).mono ?_); rintro e w1 ⟨rfl, rfl⟩))
      go_ret2
      exact Ret.mk rfl (nextB hb1 (b1 _ _))
  · have K := Lib.hid (brandOf_not n a m c L w h hl hcap hm hb)
    clear hB hb hl h C1 C2
    go_enter Try.func34, Try.ntmps34
    go_wp2_with (go_at_call 48; refine K.out.mono ?_; rintro e w1 ⟨rfl, hb1⟩)
    go_ret2
    exact Ret.mk rfl (nextB hb1 (b1 _ _))
end Go.Proofs.Ytflbaadfbjpakaa
