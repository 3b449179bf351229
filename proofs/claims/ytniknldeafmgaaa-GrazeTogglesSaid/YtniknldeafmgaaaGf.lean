/- Layer 8, by the program: pastureOf. -/
import Derived.Test.YtniknldeafmgaaaGe
namespace Go.Proofs.Ytniknldeafmgaaa
set_option linter.unusedSimpArgs false
set_option linter.unusedVariables false
open Go Go.RowKit

theorem results_pe {fn : Func} {t s : Tmp} {X : World} {tmps : Array Value} {B a b : Nat} {g : Nat → Nat} {v : Value} (hr : fn.results = #[.cell t 66, .tmp s]) (k : Blk X B 66 (pC a b g)) (ht : tmps.getD t undef = .pointer (some ⟨B, 0, none⟩)) (hs : tmps.getD s undef = v) :
    (results fn tmps).run Try.prog X = .ok (.tuple #[pV a b g, v]) X := by
  obtain ⟨c0, c1, c2, c3, c4, c5, c6, c7⟩ := k.pc
  rw [Array.getD_eq_getD_getElem?] at ht hs
  simp [results, hr, go_sem, ht, hs, c0, c1, c2, c3, c4, c5, c6, c7]
/-- The rows below the k-th. -/
def fstF (g : Nat → Nat) (k : Nat) : Nat → Nat := fun i => if i < k then g i else 0
theorem fstF_zero (g : Nat → Nat) : fstF g 0 = fun _ => 0 := by funext i; unfold fstF; rw [if_neg (by omega)]
theorem fstF_step (g : Nat → Nat) (k : Nat) : upf (fstF g k) k (g k) = fstF g (k + 1) := by
  funext i
  unfold upf fstF
  by_cases e : i = k
  · subst e; rw [if_pos rfl, if_pos (by omega)]
  · rw [if_neg e]
    by_cases h : i < k
    · rw [if_pos h, if_pos (by omega)]
    · rw [if_neg h, if_neg (by omega)]
theorem fstF_P {a b : Nat} {g : Nat → Nat} (h : IsP a b g) (k : Nat) : IsP a b (fstF g k) := ⟨h.a1, h.a6, h.b1, h.b6, fun i => by unfold fstF; split; exact h.gb i; omega⟩
theorem mo_fst (b : Nat) (g : Nat → Nat) (k : Nat) : mo b (fstF g k) k = mo b g k := by
  unfold mo fstF
  split
  · rfl
  · rw [if_pos (by omega)]
theorem IsP.sz {a b : Nat} {g : Nat → Nat} (h : IsP a b g) : SzP (a : Int) (b : Int) := by obtain ⟨h1, h2, h3, h4, _⟩ := h; unfold SzP; omega
set_option maxRecDepth 100000 in
set_option maxHeartbeats 2000000 in
theorem pastureOf_core (a b k0 : Nat) (g : Nat → Nat) (xs : List Int) (ad : Option Addr) (c : Nat) (w : World) (V : Value) (hp : IsP a b g) (hI : Ints w ad xs) (hl : xs.length = a) (hk0 : k0 ≤ a)
    (hg : ∀ i, i < k0 → nth xs i = (g i : Int) ∧ g i ≤ mo b g i) (hz : ∀ i, k0 ≤ i → g i = 0)
    (hE : (k0 = a ∧ V = .tuple #[pV a b g, .int .i64 0]) ∨ (k0 < a ∧ (nth xs k0 < 0 ∨ ((mo b g k0 : Nat) : Int) < nth xs k0) ∧ V = .tuple #[pV 0 0 (fun _ => 0), .int .i64 2])) :
    Calls Try.prog 57 #[.int .i64 (a : Int), .int .i64 (b : Int), .slice ad a c] w (Ret V w) := by
  have h1 := hp.a1
  have h6 := hp.a6
  have hb6 := hp.b6
  have hS : ∀ w, Calls Try.prog 70 #[.int .i64 (a : Int), .int .i64 (b : Int)] w (Only (.bool true) w) := fun w => by have := isSize_any (a : Int) (b : Int) w; rwa [decide_eq_true hp.sz] at this
  have hM := Lib.hid (fun k w (hk : k < 6) => by have := most_any a b (fstF g k) k w (fstF_P hp k) hk; rwa [mo_fst] at this)
  have hmo := Lib.hid (fun k => mo_le hp k)
  have hst := Lib.hid (fstF_zero g)
  have hsp := Lib.hid (fun k => fstF_step g k)
  have hen : Hid (k0 = a → fstF g a = g) := Lib.hid (fun e => by funext i; unfold fstF; split; rfl; exact (hz i (by omega)).symm)
  obtain ⟨B0, off, rfl, hc⟩ := ints_at hI (by omega)
  have hc := Lib.hid hc
  have hl := Lib.hid hl
  have hg := Lib.hid hg
  have hE := Lib.hid hE
  have k0' := (Blk.new w 66 zC).alloc (.cells (pC a b (fun _ => 0)) 66)
  have k1' := Blk.new (w.alloc (.cells zC 66)) 66 (pC a b (fun _ => 0))
  rw [World.size_alloc] at k1'
  have B := Lib.hid (b2 w (.cells zC 66) (.cells (pC a b (fun _ => 0)) 66))
  replace k0' := Lib.hid k0'
  replace k1' := Lib.hid k1'
  clear hp hz hI
  go_enter Try.func57, Try.ntmps57
  go_wp2_with (go_at_call 70; refine (hS _).mono ?_; rintro _ _ ⟨rfl, rfl⟩)
  go_loopw [9, 10, 27] (fun _ _ q wr => ∃ k : Nat, k ≤ k0 ∧ q = .int .i64 (k : Int) ∧ Blk wr w.heap.size 66 zC ∧ Blk wr (w.heap.size + 1) 66 (pC a b (fstF g k)) ∧ Below w.heap.size w wr) (fun _ _ q _ => a - (intOf q).toNat)
  case atStart => exact ⟨0, Nat.zero_le _, rfl, k0'.out, by rw [hst.out]; exact k1'.out, B.out⟩
  case round =>
    clear k0' k1' B hS
    obtain ⟨k, hm, rfl, l0, l1, B⟩ := hrel
    have hx : Hid (∀ i, i < a → wr.cell? ⟨B0, off + i, none⟩ = some (.int .i64 (nth xs i))) := Lib.hid (fun i hi => cellB B (hc.out i (by have := hl.out; omega)))
    replace B := Lib.hid B
    by_cases hka : k < a
    · have hka' : (k : Int) < (a : Int) := by omega
      have hk6 : (k : Int) < 6 := by omega
      have hx' := hx.out k hka
      have hM' := Lib.hid (fun w => hM.out k w (by omega))
      have hmo' := hmo.out k
      obtain ⟨p0, p1, p2, p3, p4, p5, p6, p7⟩ := l1.pc
      have f1 := l1.fr
      by_cases hk : k < k0
      · obtain ⟨e1, e2⟩ := hg.out k hk
        rw [e1] at hx'
        have hle : (g k : Int) ≤ ((mo b g k : Nat) : Int) := by omega
        have hb6' : g k ≤ 6 := by omega
        clear e1 e2
        go_upto_region 9 with (go_at_call 74; refine (hM'.out _).mono ?_; rintro _ w1 ⟨rfl, hw1⟩)
        replace B := Lib.hid (nextB B.out hw1)
        have l0' := l0.ext hw1
        have l1' := l1.ext hw1
        clear p0 p1 p2 p3 p4 p5 p6 p7 f1 hx' l0 l1 hw1 hx
        have f1 := l1'.fr
        have pg := l1'.pg (i := k) (by omega)
        have m0 := Lib.hid (l0'.other (B' := w.heap.size + 1) (i := 2 + k) (by omega) (.int .i64 (g k : Int)))
        have m1 := Lib.hid (hsp.out k ▸ l1'.setP (i := k) (by omega) (g k))
        have mB := Lib.hid (B.out.setCell (p := ⟨w.heap.size + 1, 2 + k, none⟩) (by simp) (.int .i64 (g k : Int)))
        clear l0' l1' B
        go_wp2
        go_roundw
        case rel => exact ⟨k + 1, by omega, by go_num, m0.out, m1.out, mB.out⟩
        case measure => simp [intOf]; omega
      · have hkk : Hid (k = k0) := Lib.hid (by omega)
        have hbad : nth xs k < 0 ∨ 0 ≤ nth xs k ∧ ((mo b g k : Nat) : Int) < nth xs k := by
          have e := hkk.out
          subst e
          rcases hE.out with ⟨h, _⟩ | ⟨_, h, _⟩
          · omega
          · omega
        have hV : Hid (V = .tuple #[pV 0 0 (fun _ => 0), .int .i64 2]) := Lib.hid (by
          have e := hkk.out
          subst e
          rcases hE.out with ⟨h, _⟩ | ⟨_, _, h⟩
          · omega
          · exact h)
        obtain ⟨r0, r1, r2, r3, r4, r5, r6, r7⟩ := l0.zc
        generalize nth xs k = x at *
        have f0 := l0.fr
        rcases hbad with hb | ⟨hb1, hb2⟩
        · have X2 := Lib.hid (end_put (a := 0) (b := 0) (g := fun _ => 0) (w := w) (D := w.heap.size) (by omega) B.out l0)
          clear l0 l1 B
          go_wp2
          exact bodyPost_ret (results_pe rfl X2.out.1 rfl rfl) rfl ⟨by rw [hV.out]; rfl, X2.out.2⟩
        · go_upto_region 8 with (go_at_call 74; refine (hM'.out _).mono ?_; rintro _ w1 ⟨rfl, hw1⟩)
          replace B := Lib.hid (nextB B.out hw1)
          have l0' := l0.ext hw1
          clear p0 p1 p2 p3 p4 p5 p6 p7 f1 hx' l0 l1 hw1 hx f0 r0 r1 r2 r3 r4 r5 r6 r7
          obtain ⟨r0, r1, r2, r3, r4, r5, r6, r7⟩ := l0'.zc
          have f0 := l0'.fr
          have X2 := Lib.hid (end_put (a := 0) (b := 0) (g := fun _ => 0) (w := w) (D := w.heap.size) (by omega) B.out l0')
          clear l0' B
          go_wp2
          exact bodyPost_ret (results_pe rfl X2.out.1 rfl rfl) rfl ⟨by rw [hV.out]; rfl, X2.out.2⟩
    · have ek : Hid (k = a ∧ k0 = a) := Lib.hid (by omega)
      have hV : Hid (V = .tuple #[pV a b g, .int .i64 0]) := Lib.hid (by
        rcases hE.out with ⟨_, h⟩ | ⟨h, _⟩
        · exact h
        · have := ek.out; omega)
      have hka' : (a : Int) ≤ (k : Int) := by omega
      rw [ek.out.1, hen.out ek.out.2] at l1
      obtain ⟨p0, p1, p2, p3, p4, p5, p6, p7⟩ := l1.pc
      obtain ⟨r0, r1, r2, r3, r4, r5, r6, r7⟩ := l0.zc
      have f0 := l0.fr
      have X2 := Lib.hid (end_put (a := a) (b := b) (g := g) (w := w) (D := w.heap.size) (by omega) B.out l0)
      clear l0 l1 B hx
      go_wp2
      exact bodyPost_ret (results_pe rfl X2.out.1 rfl rfl) rfl ⟨by rw [hV.out]; rfl, X2.out.2⟩
theorem pastureOf_size (a b : Int) (n c : Nat) (ad : Option Addr) (w : World) (h : ¬ (SzP a b ∧ (n : Int) = a)) :
    Calls Try.prog 57 #[.int .i64 a, .int .i64 b, .slice ad n c] w (Ret (.tuple #[pV 0 0 (fun _ => 0), .int .i64 2]) w) := by
  have k0 := Blk.new w 66 zC
  have X2 := Lib.hid (end_put (a := 0) (b := 0) (g := fun _ => 0) (w := w) (D := w.heap.size) (by omega) (b1 w (.cells zC 66)) k0)
  replace k0 := Lib.hid k0
  by_cases hS : SzP a b
  · have hn : ((n : Int) == a) = false := by rw [beq_eq_false_iff_ne]; exact fun e => h ⟨hS, e⟩
    have hn' : ¬ (n : Int) = a := fun e => h ⟨hS, e⟩
    have hC : ∀ w, Calls Try.prog 70 #[.int .i64 a, .int .i64 b] w (Only (.bool true) w) := fun w => by have := isSize_any a b w; rwa [decide_eq_true hS] at this
    clear h hS
    go_enter Try.func57, Try.ntmps57
    go_upto_region 1 with (fail)
    generalize w.alloc (.cells zC 66) = W at *
    obtain ⟨r0, r1, r2, r3, r4, r5, r6, r7⟩ := k0.out.zc
    have f0 := k0.out.fr
    go_wp2_with (go_at_call 70; refine (hC _).mono ?_; rintro _ _ ⟨rfl, rfl⟩)
    exact bodyPost_ret (results_pe rfl X2.out.1 rfl rfl) rfl ⟨rfl, X2.out.2⟩
  · have hC : ∀ w, Calls Try.prog 70 #[.int .i64 a, .int .i64 b] w (Only (.bool false) w) := fun w => by have := isSize_any a b w; rwa [decide_eq_false hS] at this
    clear h hS
    go_enter Try.func57, Try.ntmps57
    go_upto_region 1 with (fail)
    generalize w.alloc (.cells zC 66) = W at *
    obtain ⟨r0, r1, r2, r3, r4, r5, r6, r7⟩ := k0.out.zc
    have f0 := k0.out.fr
    go_wp2_with (go_at_call 70; refine (hC _).mono ?_; rintro _ _ ⟨rfl, rfl⟩)
    exact bodyPost_ret (results_pe rfl X2.out.1 rfl rfl) rfl ⟨rfl, X2.out.2⟩
/-- The numbers, as a function of the row. -/
def gX (xs : List Int) : Nat → Nat := fun i => (nth xs i).toNat
/-- Row i of these numbers is right. -/
def RowP (b : Int) (xs : List Int) (i : Nat) : Prop := 0 ≤ nth xs i ∧ nth xs i ≤ (if i = 0 then b else nth xs (i - 1))
/-- These numbers are a state. -/
def StP (a b : Int) (xs : List Int) : Prop := (SzP a b ∧ (xs.length : Int) = a) ∧ ∀ i, i < xs.length → RowP b xs i
theorem nth_out {xs : List Int} {i : Nat} (h : xs.length ≤ i) : nth xs i = 0 := by
  unfold nth
  rw [List.getD_eq_getElem?_getD, List.getElem?_eq_none h]; rfl
theorem rows_right {b : Nat} {xs : List Int} : ∀ n, n ≤ xs.length → (∀ i, i < n → RowP b xs i) → ∀ i, i < n → nth xs i = (gX xs i : Int) ∧ gX xs i ≤ b ∧ gX xs i ≤ mo b (gX xs) i
  | 0, _, _, i, hi => by omega
  | n + 1, hn, h, i, hi => by
    have ih := rows_right n (by omega) (fun i hi => h i (by omega))
    by_cases e : i < n
    · exact ih i e
    · obtain rfl : i = n := by omega
      obtain ⟨h1, h2⟩ := h i (by omega)
      unfold mo
      have e1 : nth xs i = (gX xs i : Int) := by unfold gX; omega
      by_cases hi0 : i = 0
      · rw [if_pos hi0] at h2 ⊢
        exact ⟨e1, by omega, by omega⟩
      · rw [if_neg hi0] at h2 ⊢
        obtain ⟨f1, f2, f3⟩ := ih (i - 1) (by omega)
        exact ⟨e1, by omega, by omega⟩
theorem least_bad {P : Nat → Prop} : ∀ n, (∀ i, i < n → P i) ∨ ∃ k, k < n ∧ ¬ P k ∧ ∀ i, i < k → P i
  | 0 => .inl fun i hi => by omega
  | n + 1 => by
    rcases least_bad (P := P) n with h | ⟨k, h1, h2, h3⟩
    · by_cases hn : P n
      · exact .inl fun i hi => by
          by_cases e : i < n
          · exact h i e
          · obtain rfl : i = n := by omega
            exact hn
      · exact .inr ⟨n, by omega, hn, h⟩
    · exact .inr ⟨k, by omega, h2, h3⟩
theorem StP.parts {a b : Int} {xs : List Int} (h : StP a b xs) : ∃ A B : Nat, a = A ∧ b = B ∧ IsS A B (gX xs) ∧ xs = stL A (gX xs) := by
  obtain ⟨⟨hS, hl⟩, hr⟩ := h
  unfold SzP at hS
  obtain ⟨A, rfl⟩ : ∃ A : Nat, a = A := ⟨a.toNat, by omega⟩
  obtain ⟨B, rfl⟩ : ∃ B : Nat, b = B := ⟨b.toNat, by omega⟩
  have hlA : xs.length = A := by omega
  have hz : ∀ i, A ≤ i → gX xs i = 0 := fun i hi => by unfold gX; rw [nth_out (by omega)]; rfl
  have ha := rows_right xs.length (Nat.le_refl _) hr
  refine ⟨A, B, rfl, rfl, ⟨⟨by omega, by omega, by omega, by omega, fun i => ?_⟩, fun i => ?_, hz⟩, ?_⟩
  · by_cases hi : i < A
    · exact (ha i (by omega)).2.1
    · rw [hz i (by omega)]; omega
  · by_cases hi : i + 1 < A
    · have := (ha (i + 1) (by omega)).2.2
      unfold mo at this
      rw [if_neg (by omega)] at this
      exact this
    · rw [hz (i + 1) (by omega)]; omega
  · exact ext_nth (by rw [stL_len]; exact hlA) (fun i hi => by rw [stL_nth _ (by omega)]; exact (ha i hi).1)
theorem StP.of {a b : Nat} {g : Nat → Nat} (h : IsS a b g) : StP (a : Int) (b : Int) (stL a g) := by
  refine ⟨⟨h.p.sz, by rw [stL_len]⟩, fun i hi => ?_⟩
  rw [stL_len] at hi
  unfold RowP
  rw [stL_nth g hi]
  have := h.mo_le i
  unfold mo at this
  by_cases hi0 : i = 0
  · rw [if_pos hi0] at this ⊢; omega
  · rw [if_neg hi0] at this ⊢
    rw [stL_nth g (by omega)]; omega
theorem gX_stL {a b : Nat} {g : Nat → Nat} (h : IsS a b g) : gX (stL a g) = g := by
  funext i
  unfold gX
  by_cases hi : i < a
  · rw [stL_nth g hi]; rfl
  · rw [nth_out (by rw [stL_len]; omega), h.zr i (by omega)]; rfl
theorem pastureOf_yes (a b : Nat) (g : Nat → Nat) (ad : Option Addr) (c : Nat) (w : World) (h : IsS a b g) (hI : Ints w ad (stL a g)) :
    Calls Try.prog 57 #[.int .i64 (a : Int), .int .i64 (b : Int), .slice ad a c] w (Ret (.tuple #[pV a b g, .int .i64 0]) w) :=
  pastureOf_core a b a g (stL a g) ad c w _ h.p hI (stL_len a g) (Nat.le_refl _) (fun i hi => ⟨stL_nth g hi, h.mo_le i⟩) h.zr (.inl ⟨rfl, rfl⟩)
theorem pastureOf_no (a b : Int) (xs : List Int) (ad : Option Addr) (n c : Nat) (w : World) (hI : Ints w ad xs) (hl : xs.length = n) (h : ¬ StP a b xs) :
    Calls Try.prog 57 #[.int .i64 a, .int .i64 b, .slice ad n c] w (Ret (.tuple #[pV 0 0 (fun _ => 0), .int .i64 2]) w) := by
  subst hl
  by_cases hS : SzP a b ∧ (xs.length : Int) = a
  · obtain ⟨h1, h2⟩ := hS
    have hS := h1
    unfold SzP at h1
    obtain ⟨B, rfl⟩ : ∃ B : Nat, b = B := ⟨b.toNat, by omega⟩
    obtain rfl := h2
    rcases least_bad (P := RowP (B : Int) xs) xs.length with hg | ⟨k, hk1, hk2, hk3⟩
    · exact absurd ⟨⟨hS, rfl⟩, hg⟩ h
    · have ha := rows_right k (by omega) hk3
      have hP : IsP xs.length B (fstF (gX xs) k) := ⟨by omega, by omega, by omega, by omega, fun i => by
        unfold fstF
        split
        · rename_i hi; exact (ha i hi).2.1
        · omega⟩
      have hm : ∀ i, i ≤ k → mo B (fstF (gX xs) k) i = mo B (gX xs) i := fun i hi => by
        unfold mo fstF
        split
        · rfl
        · rw [if_pos (by omega)]
      refine pastureOf_core xs.length B k (fstF (gX xs) k) xs ad c w _ hP hI rfl (by omega) (fun i hi => ?_) (fun i hi => ?_) (.inr ⟨hk1, ?_, rfl⟩)
      · rw [hm i (by omega)]
        have e : fstF (gX xs) k i = gX xs i := if_pos hi
        rw [e]
        exact ⟨(ha i hi).1, (ha i hi).2.2⟩
      · exact if_neg (by omega)
      · rw [hm k (Nat.le_refl _)]
        unfold RowP at hk2
        unfold mo
        by_cases hk0 : k = 0
        · rw [if_pos hk0] at hk2 ⊢; omega
        · rw [if_neg hk0] at hk2 ⊢
          have := (ha (k - 1) (by omega)).1
          omega
  · exact pastureOf_size a b xs.length c ad w hS
end Go.Proofs.Ytniknldeafmgaaa
