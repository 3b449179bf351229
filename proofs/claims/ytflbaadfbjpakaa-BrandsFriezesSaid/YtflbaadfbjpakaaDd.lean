/- Layer 2: choices, by the specification. Layer 2: Choices, by both sides. Layer 2: slices.Insert, by the library's contract. Layer 2: slices.Insert of one number into a row of the call's own. -/
import Derived.Test.YtflbaadfbjpakaaMc
import Derived.Deep.RegionWith
import Derived.Shelf.Spec.SlicesInsertGrow
namespace Go.Proofs.Ytflbaadfbjpakaa
section
open Go Go.RowKit

theorem and_pw (u i : Nat) : u &&& pw i = 0 ↔ u.testBit i = false := by
  unfold pw
  constructor
  · intro h
    have : (u &&& 2 ^ i).testBit i = false := by rw [h]; exact Nat.zero_testBit i
    rw [Nat.testBit_and, Nat.testBit_two_pow] at this
    simpa using this
  · intro h
    refine Nat.eq_of_testBit_eq fun j => ?_
    rw [Nat.testBit_and, Nat.testBit_two_pow, Nat.zero_testBit]
    by_cases hj : i = j
    · subst hj; simp [h]
    · simp [hj]
theorem bit_free (u i : Nat) : (((u / 2 ^ i : Nat) : Int) % 2 == 0) = decide (u &&& pw i = 0) := by
  have ht : u.testBit i = decide (u / 2 ^ i % 2 = 1) := Nat.testBit_eq_decide_div_mod_eq
  have ha := and_pw u i
  rw [ht] at ha
  rcases Nat.mod_two_eq_zero_or_one (u / 2 ^ i) with h | h
  · have e : ((u / 2 ^ i : Nat) : Int) % 2 = 0 := by omega
    rw [e, decide_eq_true (ha.2 (by rw [h]; rfl))]; rfl
  · have e : ((u / 2 ^ i : Nat) : Int) % 2 = 1 := by omega
    rw [e, decide_eq_false (fun hh => by have := ha.1 hh; rw [h] at this; cases this)]; rfl
theorem shr_tmod (u i : Nat) : ((u : Int) / 2 ^ i).tmod 2 = ((u / 2 ^ i : Nat) : Int) % 2 := by
  have : (u : Int) / 2 ^ i = ((u / 2 ^ i : Nat) : Int) := by rw [Int.natCast_ediv, Int.natCast_pow]; rfl
  rw [this, Int.tmod_eq_emod_of_nonneg (Int.natCast_nonneg _)]
theorem shr_one {u i : Nat} (h : (((u / 2 ^ i : Nat) : Int) % 2 == 0) = false) : ((u : Int) / 2 ^ i).tmod 2 = 1 := by
  rw [beq_eq_false_iff_ne] at h
  rw [shr_tmod]
  omega
theorem shr_zero {u i : Nat} (h : (((u / 2 ^ i : Nat) : Int) % 2 == 0) = true) : ((u : Int) / 2 ^ i).tmod 2 = 0 := by
  rw [beq_iff_eq] at h
  rw [shr_tmod, h]
/-- The corners from one on, around, until before another one. -/
def Way (n : Nat) : Nat → List Nat → Nat → Prop
  | a, [], to => a = to
  | a, c :: cs, to => c = a ∧ a ≠ to ∧ Way n ((a + 1) % n) cs to
theorem way_cons {n a c to : Nat} {cs : List Nat} : Way n a (c :: cs) to ↔ c = a ∧ a ≠ to ∧ Way n ((a + 1) % n) cs to := Iff.rfl
theorem run_shr (u i : Nat) (_hu : u < 1099511627776) (h : i < 40) (w : World) : (binOp .shr 3 (.int .i64 (u : Int)) (.int .i64 (i : Int))).run Try.prog w = .ok (.int .i64 ((u / 2 ^ i : Nat) : Int)) w := by
  go_simp
set_option maxRecDepth 100000 in
set_option maxHeartbeats 4000000 in
theorem refChoices_any (T : List Tri) (aT : Option Addr) (q capT m : Nat) (hq : T.length = q) (hq20 : q ≤ 20) (hm3 : 3 ≤ m) (hm12 : m ≤ 12) : ∀ (cs : List Nat) (at' to' u : Nat) (w : World), cs.length ≤ 11 → Way m at' cs to' → at' < m → to' < m → u < pw 20 → Trs w aT T →
    Calls Try.prog 63 #[.int .i64 m, .slice aT q capT, .int .i64 at', .int .i64 to', .int .i64 u] w (Ret (.int .i64 (choF T cs u)) w) := by
  intro cs
  induction cs with
  | nil =>
    intro a to' u w _ hw _ _ _ _
    obtain rfl : a = to' := hw
    go_enter Try.func63, Try.ntmps63
    go_wp2_with fail
    go_ret
    exact Ret.mk rfl (Below.refl _ _)
  | cons c cs ih =>
    intro a to' u w hn hw ha hto hu hT
    obtain ⟨rfl, hne, hw⟩ := way_cons.1 hw
    have hsum := Lib.hid (choF_cons T c cs u)
    have hl10 : cs.length ≤ 10 := by simp at hn; omega
    have hbd := Lib.hid (fun k (hk : k ≤ q) => show 0 ≤ sumTo (fun i => if u &&& pw i = 0 ∧ hasC (tth T i) c then choF T cs (u ||| pw i) else 0) k ∧ sumTo (fun i => if u &&& pw i = 0 ∧ hasC (tth T i) c then choF T cs (u ||| pw i) else 0) k ≤ 20 * 4096000000000000 from by
      have hp := pow20 (k := cs.length) (by omega)
      have key : ∀ k, k ≤ q → 0 ≤ sumTo (fun i => if u &&& pw i = 0 ∧ hasC (tth T i) c then choF T cs (u ||| pw i) else 0) k ∧ sumTo (fun i => if u &&& pw i = 0 ∧ hasC (tth T i) c then choF T cs (u ||| pw i) else 0) k ≤ k * 4096000000000000 := by
        intro k
        induction k with
        | zero => intro _; simp [sumTo]
        | succ k ihk =>
          intro hk
          rw [sumTo_succ]
          have h1 := ihk (by omega)
          have h2 := choF_bd T (by omega) cs (u ||| pw k)
          split <;> omega
      have := key k hk
      omega)
    generalize hf : (fun i => if u &&& pw i = 0 ∧ hasC (tth T i) c then choF T cs (u ||| pw i) else 0) = f at *
    have hfk := Lib.hid (fun k => show f k = if u &&& pw k = 0 ∧ hasC (tth T k) c then choF T cs (u ||| pw k) else 0 by rw [← hf])
    replace ih := Lib.hid ih
    replace hT := Lib.hid hT
    replace hq := Lib.hid hq
    replace hw := Lib.hid hw
    have hne' : ((c : Int) == (to' : Int)) = false := by rw [beq_eq_false_iff_ne]; omega
    replace hne := Lib.hid hne
    have hnext : ((c : Int) + 1) % (m : Int) = (((c + 1) % m : Nat) : Int) := by rw [Int.natCast_emod]; rfl
    have hnlt := Nat.mod_lt (c + 1) (show m > 0 by omega)
    generalize (c + 1) % m = c' at *
    replace hnext := Lib.hid hnext
    clear hf hn
    go_enter Try.func63, Try.ntmps63
    go_wp2_with fail
    go_loopw [11, 12] (fun s i wr => ∃ k : Nat, k ≤ q ∧ i = .int .i64 k ∧ s = .int .i64 (sumTo f k) ∧ Below w.heap.size w wr) (fun _ i _ => q - (intOf i).toNat)
    case atStart => exact ⟨0, by omega, rfl, rfl, Below.refl _ _⟩
    case round =>
      obtain ⟨k, hk, rfl, rfl, B0⟩ := hrel
      obtain ⟨s0, s1⟩ := hbd.out k hk
      by_cases hlt : k < q
      · have hTr := hT.out.next B0
        rcases hTr with hTr | ⟨bT, rfl, hct⟩
        · exact absurd hq.out (by omega)
        obtain ⟨c0, c1, c2⟩ := hct k (by rw [hq.out]; exact hlt)
        clear hct
        have hi1 : (k : Int) < (q : Int) := by omega
        have hpk := pw_le (show k < 40 by omega)
        have sh : wrap64 ((2 : Int) ^ k) = ((pw k : Nat) : Int) := by rw [pw_int]; exact IntWalk.wrap64_in _ ⟨by have := pw_le (show k < 40 by omega); omega, by have := pw_le (show k < 40 by omega); omega⟩
        have hu2 : u < 1099511627776 := by have := pw_le (show 20 < 40 by omega); omega
        have orr := i64_or_nat u (pw k) (Nat.lt_trans hu2 (by decide)) (Nat.lt_trans hpk (by decide))
        have hO := or_lt hu (show k < 20 by omega)
        have hs := Lib.hid (sumTo_succ f k)
        have hfk' := Lib.hid (hfk.out k)
        have hbf := bit_free u k
        generalize hA : u &&& pw k = A at *
        generalize hOO : u ||| pw k = O at *
        generalize pw k = P at *
        clear hA hOO
        have skipR : Hid (¬ (A = 0 ∧ hasC (tth T k) c) → sumTo f (k + 1) = sumTo f k) := Lib.hid (fun h => by rw [hs.out, hfk'.out, if_neg h, Int.add_zero])
        cases gA : decide (A = 0)
        · have tm : ((u : Int) / 2 ^ k).tmod 2 = 1 := by rw [gA] at hbf; exact shr_one hbf
          have hA0 := Lib.hid (of_decide_eq_false gA)
          clear c0 c1 c2 hbf sh orr gA
          go_wp2_with fail
          go_roundw
          case rel => exact ⟨k + 1, by omega, by go_num, by rw [skipR.out (fun h => hA0.out h.1)], B0⟩
          case measure => simp [intOf]; omega
        · have tm : ((u : Int) / 2 ^ k).tmod 2 = 0 := by rw [gA] at hbf; exact shr_zero hbf
          have hA0 := Lib.hid (of_decide_eq_true gA)
          clear hbf gA
          by_cases hc : hasC (tth T k) c
          · have hyes := Lib.hid hc
            have IH := Lib.hid (fun (x : Ext wr) => ih.out c' to' O x.world (by omega) hw.out hnlt hto hO ((hT.out.next B0).next x.ok))
            have hcb := choF_bd T (by rw [hq.out]; exact hq20) cs O
            have hp20 := pow20 (k := cs.length) (by omega)
            have v1 := hcb.1
            have v2 := Int.le_trans hcb.2 hp20
            clear hcb hp20
            have hnx := hnext.out
            have three : (((tth T k).1 : Int) == (c : Int)) = true ∨ ((((tth T k).1 : Int) == (c : Int)) = false ∧ (((tth T k).2.1 : Int) == (c : Int)) = true) ∨ ((((tth T k).1 : Int) == (c : Int)) = false ∧ (((tth T k).2.1 : Int) == (c : Int)) = false ∧ (((tth T k).2.2 : Int) == (c : Int)) = true) := by
              unfold hasC at hc
              simp only [beq_iff_eq, beq_eq_false_iff_ne]
              omega
            clear hc
            rcases three with g1 | ⟨g1, g2⟩ | ⟨g1, g2, g3⟩
            all_goals (
              go_wp2_with fail
              refine wp_region_ext (by kernel_rfl) (by kernel_rfl) ?_
              repeat (go_big_quiet_step ((go_at_call 63; exact callE (IH.out _))))
              refine wpQuiet_nil ?_
              rintro ⟨w2, hw2⟩
              dsimp only
              have B1 := nextB B0 hw2
              clear hw2 B0 sh orr
              go_wp2_with fail
              go_roundw
              case rel => exact ⟨k + 1, by omega, by go_num, by rw [hs.out, hfk'.out, if_pos ⟨hA0.out, hyes.out⟩], B1⟩
              case measure => simp [intOf]; omega)
          · have hno := Lib.hid hc
            have g1 : (((tth T k).1 : Int) == (c : Int)) = false := by unfold hasC at hc; rw [beq_eq_false_iff_ne]; omega
            have g2 : (((tth T k).2.1 : Int) == (c : Int)) = false := by unfold hasC at hc; rw [beq_eq_false_iff_ne]; omega
            have g3 : (((tth T k).2.2 : Int) == (c : Int)) = false := by unfold hasC at hc; rw [beq_eq_false_iff_ne]; omega
            clear hc sh orr
            go_wp2_with fail
            go_roundw
            case rel => exact ⟨k + 1, by omega, by go_num, by rw [skipR.out (fun h => hno.out h.2)], B0⟩
            case measure => simp [intOf]; omega
      · obtain rfl : k = q := by omega
        go_wp2_with fail
        go_ret
        exact Ret.mk (by rw [hsum.out, hq.out]; rfl) B0
end
section
open Go Go.RowKit

theorem pth_of {L : List (Int × Int)} {q : Int × Int} (h : q ∈ L) : ∃ i, i < L.length ∧ pth L i = q := by
  obtain ⟨i, hi, rfl⟩ := List.mem_iff_getElem.1 h
  exact ⟨i, hi, by simp [pth, hi]⟩
/-- What IsBrand asks, said of the lines as a set. -/
theorem BrandP.full {n : Int} {L : List (Int × Int)} (h : BrandP n L) : Full n L ∧ SortedP L := by
  obtain ⟨h3, h12, hl, hall⟩ := h
  have hlex : ∀ i j, i < j → j < L.length → LexP (pth L i) (pth L j) := fun i j hij hj => ((hall j hj).2 i hij).1
  refine ⟨⟨⟨fun q hq => ?_, fun p hp q hq hc => ?_, ?_⟩, h3, hl⟩, fun i j hij hj => (hlex i j hij hj).le⟩
  · obtain ⟨i, hi, rfl⟩ := pth_of hq
    exact (hall i hi).1
  · obtain ⟨i, hi, rfl⟩ := pth_of hp
    obtain ⟨j, hj, rfl⟩ := pth_of hq
    rcases Nat.lt_trichotomy i j with h | h | h
    · exact ((hall j hj).2 i h).2 hc
    · subst h; unfold CutP at hc; omega
    · have := hlex j i h hi
      unfold LexP at this; unfold CutP at hc; omega
  · rw [List.nodup_iff_pairwise_ne, List.pairwise_iff_getElem]
    intro i j hi hj hij e
    have := hlex i j hij hj
    rw [pth_get hi, pth_get hj, e] at this
    unfold LexP at this
    omega
theorem full_brand {n : Int} {L : List (Int × Int)} (h : Full n L) (hs : SortedP L) (h12 : n ≤ 12) : BrandP n L := by
  obtain ⟨⟨h1, h2, h3⟩, hn, hl⟩ := h
  refine ⟨hn, h12, hl, fun i hi => ⟨h1 _ (by rw [pth_get hi]; exact List.getElem_mem hi), fun k hk => ⟨?_, ?_⟩⟩⟩
  · have hle := hs k i hk hi
    have hne : pth L k ≠ pth L i := fun e => by
      rw [pth_get hi, pth_get (show k < L.length by omega)] at e
      exact absurd ((List.getElem_inj h3).1 e) (by omega)
    unfold LeP at hle
    unfold LexP at *
    have : (pth L k).1 ≠ (pth L i).1 ∨ (pth L k).2 ≠ (pth L i).2 := by
      refine Classical.byContradiction fun hh => hne (Prod.ext ?_ ?_) <;> omega
    omega
  · exact h2 _ (by rw [pth_get (show k < L.length by omega)]; exact List.getElem_mem _) _ (by rw [pth_get hi]; exact List.getElem_mem hi)
theorem BrandP.tris {n : Nat} {L : List (Int × Int)} (h : BrandP n L) : (tris n L).length + 2 = n := by
  obtain ⟨m, rfl⟩ : ∃ m, n = m + 3 := ⟨n - 3, by have := h.1; omega⟩
  rw [tris_length m h.full.1]
theorem way_btwT {n i k : Nat} (d : Nat) (hne : ∀ t, t < d → cor n i t ≠ k) (hd : cor n i d = k) : ∀ (l s : Nat), s + l = d → Way n (cor n i s) ((List.range' s l).map (cor n i)) k := by
  intro l
  induction l with
  | zero => intro s hs; simp only [List.range'_zero, List.map_nil, Way]; rw [← hd, ← hs]; rfl
  | succ l ih =>
    intro s hs
    rw [List.range'_succ, List.map_cons, way_cons]
    refine ⟨rfl, hne s (by omega), ?_⟩
    have := ih (s + 1) (by omega)
    have e : (cor n i s + 1) % n = cor n i (s + 1) := by unfold cor; rw [Nat.mod_add_mod, show i + 1 + s + 1 = i + 1 + (s + 1) by omega]
    rw [e]
    exact this
theorem way_btw {n i k : Nat} (hi : i < n) (hk : k < n) (hik : i ≠ k) : Way n ((i + 1) % n) (btw n i k) k ∧ (btw n i k).length ≤ n := by
  have h := fun t (ht : t ≤ (k + n - i - 1) % n) => cor_at hi hk hik ht
  have h0 := (h _ (Nat.le_refl _))
  refine ⟨?_, by rw [btw, btwT_length]; omega⟩
  have := way_btwT (n := n) (i := i) (k := k) ((k + n - i - 1) % n) (fun t ht e => by have := (h t (by omega)).1.1 e; omega) (h0.1.2 rfl) ((k + n - i - 1) % n) 0 (by omega)
  rw [btw, btwT, List.range_eq_range']
  exact this
set_option maxRecDepth 100000 in
set_option maxHeartbeats 4000000 in
theorem refChoices_yes (n i k : Nat) (a : Option Addr) (m c : Nat) (L : List (Int × Int)) (w : World) (h : Prs w a L) (hl : L.length = m) (hB : BrandP n L) (hi : i < n) (hk : k < n) (hik : i ≠ k) :
    Calls Try.prog 35 #[.int .i64 n, .slice a m c, .int .i64 i, .int .i64 k] w (Ret (.tuple #[.int .i64 (choF (tris n L) (btw n i k) 0), .int .i64 0]) w) := by
  have hn3 : 3 ≤ n := by have := hB.1; omega
  have hn : n ≤ 12 := by have := hB.2.1; omega
  have hm : m + 3 = n := by have := hB.2.2.1; omega
  have hT := hB.tris
  have K := refIsBrand_any n a m c L w h hl (by omega)
  rw [decide_eq_true hB] at K
  replace K := Lib.hid K
  have T := Lib.hid (fun W (hW : Below w.heap.size w W) => refTriangles_any n a m c L W (h.next hW) hl (by omega) (by omega) (by omega))
  have hw := Lib.hid (way_btw hi hk hik)
  have hlt := Nat.mod_lt (i + 1) (show n > 0 by omega)
  have hnx : Hid (((i : Int) + 1) % (n : Int) = (((i + 1) % n : Nat) : Int)) := Lib.hid (by rw [Int.natCast_emod]; rfl)
  have ne1 : ((i : Int) == (k : Int)) = false := by rw [beq_eq_false_iff_ne]; omega
  have RC := Lib.hid (fun a2 c2 W (htr : Trs W a2 (tris n L)) => show Calls Try.prog 63 #[.int .i64 n, .slice a2 (tris n L).length c2, .int .i64 (((i : Int) + 1) % (n : Int)), .int .i64 k, .int .i64 0] W (Ret (.int .i64 (choF (tris n L) (btw n i k) 0)) W) from by
    rw [hnx.out]
    exact refChoices_any (tris n L) _ _ _ n rfl (by omega) hn3 hn (btw n i k) _ k 0 _ (by have := hw.out.2; have := (cor_at hi hk hik (Nat.le_refl _)).2; rw [btw, btwT_length]; omega) hw.out.1 hlt hk (by decide) htr)
  generalize btw n i k = cs at *
  clear hB hl h hw hnx hlt
  go_enter Try.func35, Try.ntmps35
  go_wp2_with fail
  refine K.out.mono ?_
  rintro e w1 ⟨rfl, hb1⟩
  dsimp only
  go_wp2_with fail
  have hT' := Lib.hid (T.out _ hb1.drew)
  go_region_with (first
    | (go_at_call 53; refine hT'.out.mono ?_; rintro e w2 ⟨v2, rfl, hown2, hb2⟩; obtain ⟨a2, c2, rfl, hc2, htr⟩ := own_trs hown2)
    | (go_at_call 63; refine (RC.out _ _ _ htr).mono ?_; rintro e w3 ⟨rfl, hb3⟩))
  all_goals (
    have B3 := nextB (nextB hb1.drew hb2) hb3
    go_wp2_with fail
    go_ret2
    exact Ret.mk rfl B3)
def ChoP (n : Int) (L : List (Int × Int)) (i k : Int) : Prop := BrandP n L ∧ 0 ≤ i ∧ i < n ∧ 0 ≤ k ∧ k < n ∧ i ≠ k
instance (n L i k) : Decidable (ChoP n L i k) := by unfold ChoP; infer_instance
set_option maxRecDepth 100000 in
set_option maxHeartbeats 4000000 in
theorem refChoices_no (n i k : Int) (a : Option Addr) (m c : Nat) (L : List (Int × Int)) (w : World) (h : Prs w a L) (hl : L.length = m) (hm : m ≤ 4611686018427387904) (hB : ¬ ChoP n L i k) :
    Calls Try.prog 35 #[.int .i64 n, .slice a m c, .int .i64 i, .int .i64 k] w (Ret (.tuple #[.int .i64 0, .int .i64 2]) w) := by
  have K := Lib.hid (refIsBrand_any n a m c L w h hl hm)
  clear hl h
  by_cases hb : BrandP n L
  · rw [decide_eq_true hb] at K
    have hcase : (i < 0) ∨ (0 ≤ i ∧ n ≤ i) ∨ (0 ≤ i ∧ i < n ∧ k < 0) ∨ (0 ≤ i ∧ i < n ∧ 0 ≤ k ∧ n ≤ k) ∨ (0 ≤ i ∧ i < n ∧ 0 ≤ k ∧ k < n ∧ i = k) := by
      unfold ChoP at hB
      refine Classical.byContradiction fun hh => hB ⟨hb, ?_⟩
      omega
    clear hB hb
    rcases hcase with h1 | ⟨h1, h2⟩ | ⟨h1, h2, h3⟩ | ⟨h1, h2, h3, h4⟩ | ⟨h1, h2, h3, h4, rfl⟩
    all_goals (
      go_enter Try.func35, Try.ntmps35
      go_wp2_with (go_at_call 19; refine K.out.mono ?_; rintro e w1 ⟨rfl, hb1⟩)
      go_ret2
      exact Ret.mk rfl hb1)
  · rw [decide_eq_false hb] at K
    clear hB hb
    go_enter Try.func35, Try.ntmps35
    go_wp2_with (go_at_call 19; refine K.out.mono ?_; rintro e w1 ⟨rfl, hb1⟩)
    go_ret2
    exact Ret.mk rfl hb1
set_option maxRecDepth 100000 in
set_option maxHeartbeats 4000000 in
theorem Choices_no (n i k : Int) (a : Option Addr) (m c : Nat) (L : List (Int × Int)) (w : World) (h : Prs w a L) (hl : L.length = m) (hcap : m ≤ c) (hm : m ≤ 4611686018427387904) (hB : ¬ ChoP n L i k) :
    Calls Try.prog 34 #[.int .i64 n, .slice a m c, .int .i64 i, .int .i64 k] w (Ret (.tuple #[.int .i64 0, .int .i64 2]) w) := by
  have C1 := Lib.hid (fun W => isCorner_any n i W)
  have C2 := Lib.hid (fun W => isCorner_any n k W)
  by_cases hb : BrandP n L
  · have K := Lib.hid (brandOf_yes n a m c L w h hl hcap hb)
    have hcase : ¬ CornP n i ∨ (CornP n i ∧ ¬ CornP n k) ∨ (CornP n i ∧ CornP n k ∧ i = k) := by
      unfold ChoP at hB
      unfold CornP
      refine Classical.byContradiction fun hh => hB ⟨hb, ?_⟩
      omega
    clear hB hb hl h
    rcases hcase with h1 | ⟨h1, h2⟩ | ⟨h1, h2, rfl⟩
    · rw [decide_eq_false h1] at C1
      clear h1 C2
      go_enter Try.func34, Try.ntmps34
      go_wp2_with (first
        | (go_at_call 48; refine K.out.mono ?_; rintro e w1 ⟨rfl, hb1⟩)
        | (go_at_call 59; (with_reducible refine (C1.out _).mono ?_); rintro e w1 ⟨rfl, rfl⟩))
      go_ret2
      exact Ret.mk rfl (nextB hb1 (b1 _ _))
    · rw [decide_eq_true h1] at C1
      rw [decide_eq_false h2] at C2
      clear h1 h2
      go_enter Try.func34, Try.ntmps34
      go_wp2_with (first
        | (go_at_call 48; refine K.out.mono ?_; rintro e w1 ⟨rfl, hb1⟩)
        | (go_at_call 59; (with_reducible refine (C1.out _).mono ?_); rintro e w1 ⟨rfl, rfl⟩)
        | (go_at_call 59; (with_reducible refine (C2.out _).mono ?_); rintro e w1 ⟨rfl, rfl⟩))
      go_ret2
      exact Ret.mk rfl (nextB hb1 (b1 _ _))
    · rw [decide_eq_true h1] at C1
      clear h1 h2 C2
      go_enter Try.func34, Try.ntmps34
      go_wp2_with (first
        | (go_at_call 48; refine K.out.mono ?_; rintro e w1 ⟨rfl, hb1⟩)
        | (go_at_call 59; (with_reducible refine (C1.out _).mono ?_); rintro e w1 ⟨rfl, rfl⟩))
      go_ret2
      exact Ret.mk rfl (nextB hb1 (b1 _ _))
  · have K := Lib.hid (brandOf_not n a m c L w h hl hcap hm hb)
    clear hB hb hl h C1 C2
    go_enter Try.func34, Try.ntmps34
    go_wp2_with (go_at_call 48; refine K.out.mono ?_; rintro e w1 ⟨rfl, hb1⟩)
    go_ret2
    exact Ret.mk rfl (nextB hb1 (b1 _ _))
end
section
open Go Go.RowKit Go.Shelf

/-- The numbers of this program beside the library's own. -/
def insRen : Ren := ⟨fun k => if k = 21 then 67 else if k = 27 then 81 else if k = 28 then 82 else if k = 35 then 90 else 96, fun t => if t = 3 then 3 else if t = 4 then 4 else if t = 22 then 30 else t, fun g => g⟩
theorem insLays : Lays2.n21 Try.prog insRen where
  mixed := by kernel_rfl
  f21 := by kernel_rfl
  f27 := by kernel_rfl
  f28 := by kernel_rfl
  f35 := by kernel_rfl
  f39 := by kernel_rfl
  t0 := by kernel_rfl
  a0 := fun _ => by kernel_rfl
  z0 := fun _ => by kernel_rfl
  v0 := fun _ => by kernel_rfl
  t3 := by kernel_rfl
  a3 := fun _ => by kernel_rfl
  z3 := fun _ => by kernel_rfl
  v3 := fun _ => by kernel_rfl
  t4 := by kernel_rfl
  a4 := fun _ => by kernel_rfl
  z4 := fun _ => by kernel_rfl
  v4 := fun _ => by kernel_rfl
  t22 := by kernel_rfl
  a22 := fun _ => by kernel_rfl
  z22 := fun _ => by kernel_rfl
  v22 := fun _ => by kernel_rfl
  i3 := by kernel_rfl
end
section
open Go Go.RowKit

/-- x laid in at i. -/
def insV {α : Type} (X : List α) (i : Nat) (x : α) : List α := X.take i ++ x :: X.drop i
theorem insV_length {α : Type} (X : List α) (i : Nat) (x : α) (hi : i ≤ X.length) : (insV X i x).length = X.length + 1 := by simp [insV]; omega
theorem insV_get {α : Type} (X : List α) (i : Nat) (x : α) (hi : i ≤ X.length) (t : Nat) : (insV X i x)[t]? = if t < i then X[t]? else if t = i then some x else X[t - 1]? := by
  unfold insV
  rw [List.getElem?_append, List.length_take, Nat.min_eq_left hi]
  by_cases h1 : t < i
  · rw [if_pos h1, if_pos h1, List.getElem?_take, if_pos h1]
  · rw [if_neg h1, if_neg h1]
    by_cases h2 : t = i
    · subst h2; simp
    · rw [if_neg h2]
      obtain ⟨s, hs⟩ : ∃ s, t - i = s + 1 := ⟨t - i - 1, by omega⟩
      rw [hs, List.getElem?_cons_succ, List.getElem?_drop]
      congr 1
      omega
theorem lI_ins (xs : List Int) (i : Nat) (x : Int) : insV (lI xs) i (.int .i64 x) = lI (insV xs i x) := by simp [insV, lI]
theorem layL_length : ∀ (vs X : List Value) (o : Nat), (layL X o vs).length = X.length := by
  intro vs
  induction vs with
  | nil => intros; rfl
  | cons v vs ih => intro X o; rw [layL, ih]; simp
theorem ins_shift {X cs : List Value} {n i : Nat} {x : Value} (hX : n + 1 ≤ X.length) (hc : X.take n = cs) (hi : i ≤ n) : (layL (layL X (i + 1) (cs.drop i)) i [x]).take (n + 1) = insV cs i x := by
  have hcl : cs.length = n := by rw [← hc]; simp; omega
  have hg : ∀ t, t < n → X[t]? = cs[t]? := fun t ht => by rw [← hc, List.getElem?_take, if_pos ht]
  apply List.ext_getElem?
  intro t
  rw [insV_get _ _ _ (by omega), List.getElem?_take]
  by_cases ht : t < n + 1
  · rw [if_pos ht, layL_get _ _ _ _ (by rw [layL_length]; simp; omega)]
    by_cases h1 : t < i
    · rw [if_neg (by omega), if_pos h1, layL_get _ _ _ _ (by simp; omega), if_neg (by omega), hg t (by omega)]
    · rw [if_neg h1]
      by_cases h2 : t = i
      · subst h2; rw [if_pos (by simp), if_pos rfl]; simp
      · rw [if_neg (by simp; omega), if_neg h2, layL_get _ _ _ _ (by simp; omega), if_pos (by simp; omega), List.getElem?_drop]
        congr 1
        omega
  · rw [if_neg ht, if_neg (by omega), if_neg (by omega), List.getElem?_eq_none (by omega)]
theorem ins_fresh {R cs : List Value} {n i : Nat} {x : Value} (hR : n + 1 ≤ R.length) (hcl : cs.length = n) (hi : i < n) (hr : ∀ t, t < i → R[t]? = cs[t]?) : (layL (layL R i [x]) (i + 1) (cs.drop i)).take (n + 1) = insV cs i x := by
  apply List.ext_getElem?
  intro t
  rw [insV_get _ _ _ (by omega), List.getElem?_take]
  by_cases ht : t < n + 1
  · rw [if_pos ht, layL_get _ _ _ _ (by rw [layL_length]; simp; omega)]
    by_cases h1 : t < i
    · rw [if_neg (by omega), if_pos h1, layL_get _ _ _ _ (by simp; omega), if_neg (by omega), hr t h1]
    · rw [if_neg h1]
      by_cases h2 : t = i
      · subst h2; rw [if_neg (by omega), layL_get _ _ _ _ (by simp; omega), if_pos (by simp), if_pos rfl]; simp
      · rw [if_pos (by simp; omega), if_neg h2, List.getElem?_drop]
        congr 1
        omega
  · rw [if_neg ht, if_neg (by omega), if_neg (by omega), List.getElem?_eq_none (by omega)]
theorem ins_end {X cs : List Value} {n : Nat} {x : Value} (hX : n + 1 ≤ X.length) (hc : X.take n = cs) : (layL X n [x]).take (n + 1) = insV cs n x := by
  have hcl : cs.length = n := by rw [← hc]; simp; omega
  apply List.ext_getElem?
  intro t
  rw [insV_get _ _ _ (by omega), List.getElem?_take]
  by_cases ht : t < n + 1
  · rw [if_pos ht, layL_get _ _ _ _ (by simp; omega)]
    by_cases h1 : t < n
    · rw [if_neg (by omega), if_pos h1, ← hc, List.getElem?_take, if_pos h1]
    · have : t = n := by omega
      subst this
      rw [if_pos (by simp), if_neg h1, if_pos rfl]; simp
  · rw [if_neg ht, if_neg (by omega), if_neg (by omega), List.getElem?_eq_none (by omega)]
section
variable {w : World} {base : Nat} {e : TypeId} {g n cap : Nat} {xs : List Value}
/-- All of the row, up to its capacity. -/
theorem own_full (h : w.ownsRow base e 1 (.slice (some ⟨g, 0, none⟩) n cap) n xs) : ∃ X, X.length = cap ∧ X.take n = xs ∧ w.ownsRow base e 1 (.slice (some ⟨g, 0, none⟩) cap cap) cap X := by
  rcases h.2 with ⟨h', _⟩ | ⟨g', cap', cur, h', hb, hg, hnc, hcm, hcs, htake⟩
  · simp at h'
  · simp only [Value.slice.injEq, Option.some.injEq, Addr.mk.injEq, and_true, true_and] at h'
    obtain ⟨rfl, rfl⟩ := h'
    exact ⟨cur.toList, by simp [hcs], by rw [← htake, Nat.mul_one], ⟨by simp [hcs], .inr ⟨g, cap, cur, rfl, hb, hg, Nat.le_refl _, hcm, hcs, List.take_of_length_le (by simp [hcs])⟩⟩⟩
theorem own_shape (h : w.ownsRow base e 1 (.slice (some ⟨g, 0, none⟩) n cap) n xs) : w.shape? g = some (e, cap) := by
  rcases h.2 with ⟨h', _⟩ | ⟨g', cap', cur, h', hb, hg, hnc, hcm, hcs, htake⟩
  · simp at h'
  · simp only [Value.slice.injEq, Option.some.injEq, Addr.mk.injEq, and_true, true_and] at h'
    obtain ⟨rfl, rfl⟩ := h'
    unfold World.shape?
    rw [hg]
    simp [hcs]
theorem own_fresh (w : World) (R : Array Value) (hb : base ≤ w.heap.size) (hm : R.size ≤ maxLen) : (w.alloc (.cells R e)).ownsRow base e 1 (.slice (some ⟨w.heap.size, 0, none⟩) R.size R.size) R.size R.toList :=
  ⟨by simp, .inr ⟨w.heap.size, R.size, R, rfl, hb, heap_alloc_new w _, Nat.le_refl _, hm, by simp, List.take_of_length_le (by simp)⟩⟩
end
theorem grown_trans {a b c : World} {g : Nat} (h : a.grownBy b (some g)) (k : b.grownBy c (some g)) : a.grownBy c (some g) :=
  ⟨k.os.trans h.os, k.tape.trans h.tape, k.output.trans h.output, Nat.le_trans h.size k.size, fun q hq hne => (k.block q (Nat.lt_of_lt_of_le hq h.size) hne).trans (h.block q hq hne)⟩
theorem insert_any (base g n cap i vb : Nat) (xs : List Int) (x : Int) (w : World) (hown : w.ownsRow base 3 1 (.slice (some ⟨g, 0, none⟩) n cap) n (lI xs)) (hi : i ≤ n) (h1 : 1 ≤ n) (h60 : n ≤ 1000)
    (hv : Blk w vb 3 #[.int .i64 x]) (hne : vb ≠ g) (hb : base ≤ w.heap.size) :
    Calls Try.prog 67 #[.slice (some ⟨g, 0, none⟩) n cap, .int .i64 i, .slice (some ⟨vb, 0, none⟩) 1 1] w fun e w' => ∃ g' cap', e = .returned (.slice (some ⟨g', 0, none⟩) (n + 1) cap') ∧
      w'.ownsRow base 3 1 (.slice (some ⟨g', 0, none⟩) (n + 1) cap') (n + 1) (lI (insV xs i x)) ∧ Below base w w' := by
  obtain ⟨hcap, hcm⟩ := own_cap hown
  have hcm' := hcm
  unfold maxLen at hcm'
  obtain ⟨X, hXl, hXt, hX⟩ := own_full hown
  have hgb := (hown.lt g rfl).1
  have hl : (lI xs).length = n := by have := hown.1; omega
  have hcs : ∀ j v, (lI xs)[j]? = some v → w.cell? ⟨g, 0 + j, none⟩ = some v := fun j v hj => by
    have : j < n := by have := (List.getElem?_eq_some_iff.1 hj).1; omega
    rw [Nat.zero_add, hown.cellAt j (by omega)]; exact hj
  have hvs : ∀ j v, [Value.int .i64 x][j]? = some v → w.cell? ⟨vb, 0 + j, none⟩ = some v := fun j v hj => by
    have : j < 1 := by have := (List.getElem?_eq_some_iff.1 hj).1; simpa using this
    obtain rfl : j = 0 := by omega
    simp at hj
    subst hj
    exact hv.c 0 rfl
  have h1v : ∀ v ∈ [Value.int .i64 x], v.oneCell' = true := by simp [Value.oneCell']
  by_cases hroom : n + 1 ≤ cap
  · by_cases hin : i < n
    · have K := Any2.slices_Insert_int_shift insLays g 0 n cap i vb 0 1 1 (lI xs) [.int .i64 x] w hin (by omega) hroom (by omega) hne hl rfl hcs
        (fun j hj => by rw [Nat.zero_add]; exact own_isSome hX j (by omega)) (fun j _ => by rw [Nat.zero_add]; exact hX.frozenAt _) hvs (lI_one xs) h1v 3 3 1 cap (by unfold World.shape?; unfold Blk at hv; rw [hv]; rfl) (own_shape hown) (by omega) (hv.fr 0) (hv.fr 1)
      refine K.mono ?_
      rintro e w' ⟨rfl, rfl⟩
      obtain ⟨o1, o2⟩ := own_setCells ((lI xs).drop i) (0 + (i + 1)) X w.drew (own_drew hX)
      obtain ⟨o3, o4⟩ := own_setCells [.int .i64 x] (0 + i) _ _ o1
      have o5 := own_take o3 (n + 1) (by omega)
      rw [Nat.mul_one, Nat.zero_add, Nat.zero_add, ins_shift (by omega) hXt hi, lI_ins] at o5
      exact ⟨g, cap, rfl, by rw [Nat.zero_add, Nat.zero_add]; exact o5, (Below.refl base w).drew.grown (grown_trans o2 o4) hb (fun k hk => by cases hk; exact hgb)⟩
    · obtain rfl : i = n := by omega
      have K := Any2.slices_Insert_int_end_room insLays g 0 i cap vb 0 1 1 [.int .i64 x] w (by omega) hroom (by omega) rfl
        (fun j hj => by rw [Nat.zero_add]; exact own_isSome hX _ (by omega)) (fun j _ => by rw [Nat.zero_add]; exact hX.frozenAt _) hvs h1v
      refine K.mono ?_
      rintro e w' ⟨rfl, rfl⟩
      obtain ⟨o3, o4⟩ := own_setCells [.int .i64 x] (0 + i) _ _ hX
      have o5 := own_take o3 (i + 1) (by omega)
      rw [Nat.mul_one, Nat.zero_add, ins_end (by omega) hXt, lI_ins] at o5
      exact ⟨g, cap, rfl, by rw [Nat.zero_add]; exact o5, (Below.refl base w).grown o4 hb (fun k hk => by cases hk; exact hgb)⟩
  · have hcn : cap < n + 1 := by omega
    have hG1 := grownCap_ge w (n + 1) cap 3
    have hG2 := grownCap_le_maxLen w (n + 1) cap 3 (by unfold maxLen; omega)
    by_cases hin : i < n
    · have K := Any2.slices_Insert_int_grow insLays g 0 n cap i vb 0 1 1 (lI xs) [.int .i64 x] w hin (by omega) hcap hcn (by omega) hl rfl hcs hvs (lI_one xs) h1v
      refine K.mono ?_
      rintro e w' ⟨rfl, rfl⟩
      show ∃ g' cap', Ending.returned (.slice (some ⟨w.heap.size, 0, none⟩) (n + 1) (grownCap w (n + 1) cap 3)) = _ ∧ _
      rw [show insRen.t 3 = 3 from rfl]
      generalize hR : (((lI xs).take i).toArray ++ Builtin.zeroCells (Value.int .i64 0).cells (n + 1 - i) ++ Builtin.zeroCells (Value.int .i64 0).cells (grownCap w (n + 1) cap 3 - (n + 1))) = R
      have hRs : R.size = grownCap w (n + 1) cap 3 := by
        rw [← hR]; simp [Builtin.zeroCells, Value.cells, hl]; omega
      have o0 := own_fresh (e := 3) w R hb (by omega)
      rw [hRs] at o0
      obtain ⟨o1, o2⟩ := own_setCells [.int .i64 x] i _ _ (own_drew o0)
      obtain ⟨o3, o4⟩ := own_setCells ((lI xs).drop i) (i + 1) _ _ (own_drew o1)
      have o5 := own_take o3 (n + 1) (by omega)
      have hRt : ∀ t, t < i → R.toList[t]? = (lI xs)[t]? := fun t ht => by
        rw [← hR]
        simp only [Array.toList_append, List.append_assoc]
        rw [List.getElem?_append_left (by simp [hl]; omega), List.getElem?_take, if_pos ht]
      rw [Nat.mul_one, ins_fresh (by simp [hRs]; omega) hl hin hRt, lI_ins] at o5
      refine ⟨_, _, rfl, o5, ?_⟩
      have B0 : Below base w (w.alloc (.cells R 3)).drew := ((Below.refl base w).alloc hb _).drew
      have B1 := B0.grown o2 (by simp; omega) (fun k hk => by cases hk; exact hb)
      have hs := B1.size
      exact B1.drew.grown o4 (by show base ≤ _; simpa using Nat.le_trans hb (by simpa using B1.size)) (fun k hk => by cases hk; exact hb)
    · obtain rfl : i = n := by omega
      have K := Any2.slices_Insert_int_end_grow insLays (some ⟨g, 0, none⟩) i cap vb 0 1 1 (lI xs) [.int .i64 x] w (by omega) hcap hcn (by omega) hl rfl (fun h => by cases h)
        (fun a ha j v hj => by cases ha; rw [Addr.add_lit]; exact hcs j v hj) hvs h1v
      refine K.mono ?_
      rintro e w' ⟨rfl, rfl⟩
      rw [show insRen.t 3 = 3 from rfl]
      generalize hR : ((lI xs ++ [Value.int .i64 x]).toArray ++ Builtin.zeroCells (Value.int .i64 0).cells (grownCap w (i + 1) cap 3 - (i + 1))) = R
      have hRs : R.size = grownCap w (i + 1) cap 3 := by
        rw [← hR]; simp [Builtin.zeroCells, Value.cells, hl]; omega
      have o0 := own_fresh (e := 3) w.drew R (by simpa using hb) (by omega)
      rw [hRs] at o0
      have o5 := own_take o0 (i + 1) (by omega)
      have hRt : R.toList.take ((i + 1) * 1) = insV (lI xs) i (.int .i64 x) := by
        rw [← hR]
        simp only [Array.toList_append]
        rw [List.take_append_of_le_length (by simp [hl]), List.take_of_length_le (by simp [hl])]
        unfold insV
        rw [List.take_of_length_le (by omega), List.drop_eq_nil_of_le (by omega)]
      rw [hRt, lI_ins] at o5
      exact ⟨_, _, rfl, o5, (Below.refl base w).drew.alloc (by simpa using hb) _⟩
end
end Go.Proofs.Ytflbaadfbjpakaa
