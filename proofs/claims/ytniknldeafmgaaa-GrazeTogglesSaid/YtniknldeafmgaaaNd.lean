/- Layer 8, mathematics: words and states. -/
import Derived.Test.YtniknldeafmgaaaHi
namespace Go.Proofs.Ytniknldeafmgaaa
set_option linter.unusedSimpArgs false
set_option linter.unusedVariables false

/-- The rest of the word, m rows being left and p columns passed. -/
def twF (b : Nat) (g : Nat → Nat) : Nat → Nat → List UInt8
  | 0, p => List.replicate (b - p) 114
  | m + 1, p => List.replicate (g m - p) 114 ++ 117 :: twF b g m (g m)
theorem wr_tw (a b : Nat) (g : Nat → Nat) : ∀ n, n ≤ a → wrN a g n ++ twF b g (a - n) (pasN a g n) = twF b g a 0
  | 0, _ => by rw [Nat.sub_zero]; rfl
  | n + 1, h => by
    rw [← wr_tw a b g n (by omega)]
    obtain ⟨r, hr⟩ : ∃ r, a - n = r + 1 := ⟨a - n - 1, by omega⟩
    have e1 : a - 1 - n = r := by omega
    have e2 : a - (n + 1) = r := by omega
    have e3 : pasN a g (n + 1) = g r := by unfold pasN; rw [if_neg (by omega), e2]
    rw [hr, wrN, e1, e2, e3, twF]
    simp [List.append_assoc]
theorem word_tw {a b : Nat} (h : 1 ≤ a) (g : Nat → Nat) : wordF a b g = twF b g a 0 := by
  rw [← wr_tw a b g a (Nat.le_refl _), Nat.sub_self]
  have e : pasN a g a = g 0 := by unfold pasN; rw [if_neg (by omega), Nat.sub_self]
  rw [e]; rfl
theorem tw_congr {b : Nat} {g h : Nat → Nat} : ∀ {m p : Nat}, (∀ i, i < m → g i = h i) → twF b g m p = twF b h m p
  | 0, _, _ => rfl
  | m + 1, p, e => by
    rw [twF, twF, e m (by omega), tw_congr (fun i hi => e i (by omega))]
/-- Only the two letters. -/
def Lets (l : List UInt8) : Prop := ∀ c ∈ l, c = 117 ∨ c = 114
theorem Lets.tail {c : UInt8} {l : List UInt8} (h : Lets (c :: l)) : Lets l := fun x hx => h x (by simp [hx])
theorem ofR_high : ∀ (l : List UInt8) (m p : Nat) (g : Nat → Nat) (i : Nat), Lets l → m ≤ i → l.count 117 ≤ m → ofR l m p g i = g i
  | [], _, _, _, _, _, _, _ => rfl
  | c :: l, m, p, g, i, hl, hi, hc => by
    rw [List.count_cons] at hc
    rcases hl c (by simp) with e | e
    · subst e
      simp at hc
      have e2 : ofR (117 :: l) m p g = ofR l (m - 1) p (upf g (m - 1) p) := rfl
      rw [e2, ofR_high l (m - 1) p _ i hl.tail (by omega) (by omega), upf_ne _ _ (by omega)]
    · subst e
      have e2 : ofR (114 :: l) m p g = ofR l m (p + 1) g := rfl
      rw [e2]
      exact ofR_high l m (p + 1) g i hl.tail hi (by simp at hc; omega)
theorem ofR_ge : ∀ (l : List UInt8) (m p : Nat) (g : Nat → Nat), Lets l → l.count 117 = m → 1 ≤ m → p ≤ ofR l m p g (m - 1)
  | [], m, p, g, _, hc, hm => by simp at hc; omega
  | c :: l, m, p, g, hl, hc, hm => by
    rw [List.count_cons] at hc
    rcases hl c (by simp) with e | e
    · subst e
      simp at hc
      have e2 : ofR (117 :: l) m p g = ofR l (m - 1) p (upf g (m - 1) p) := rfl
      rw [e2, ofR_high l (m - 1) p _ (m - 1) hl.tail (Nat.le_refl _) (by omega), upf_at]
      exact Nat.le_refl _
    · subst e
      have e2 : ofR (114 :: l) m p g = ofR l m (p + 1) g := rfl
      rw [e2]
      have := ofR_ge l m (p + 1) g hl.tail (by simpa using hc) hm
      omega
theorem ofR_dn : ∀ (l : List UInt8) (m p : Nat) (g : Nat → Nat), Lets l → l.count 117 = m → (∀ i, m ≤ i → g (i + 1) ≤ g i) → (g m ≤ p) → ∀ i, ofR l m p g (i + 1) ≤ ofR l m p g i
  | [], m, p, g, _, hc, hg, _, i => by
    simp at hc; subst hc
    exact hg i (by omega)
  | c :: l, m, p, g, hl, hc, hg, hp, i => by
    rw [List.count_cons] at hc
    rcases hl c (by simp) with e | e
    · subst e
      simp at hc
      have e2 : ofR (117 :: l) m p g = ofR l (m - 1) p (upf g (m - 1) p) := rfl
      rw [e2]
      refine ofR_dn l (m - 1) p _ hl.tail (by omega) (fun k hk => ?_) (by rw [upf_at]; exact Nat.le_refl _) i
      by_cases e : k = m - 1
      · subst e
        rw [upf_at, upf_ne _ _ (by omega), show m - 1 + 1 = m by omega]; exact hp
      · rw [upf_ne _ _ e, upf_ne _ _ (by omega)]; exact hg k (by omega)
    · subst e
      have e2 : ofR (114 :: l) m p g = ofR l m (p + 1) g := rfl
      rw [e2]
      exact ofR_dn l m (p + 1) g hl.tail (by simpa using hc) hg (by omega) i
theorem IsW.lets {a b : Nat} {l : List UInt8} (h : IsW a b l) : Lets l := two_letters l (by have := h.us; have := h.rs; have := h.len; omega)
theorem ofF_S {a b : Nat} {l : List UInt8} (ha : 1 ≤ a ∧ a ≤ 6) (hb : 1 ≤ b ∧ b ≤ 6) (h : IsW a b l) : IsS a b (ofF a l) := by
  refine ⟨ofR_P l a 0 _ ⟨ha.1, ha.2, hb.1, hb.2, fun _ => by omega⟩ (by rw [h.rs]; omega), ofR_dn l a 0 _ h.lets h.us (fun _ _ => Nat.le_refl _) (Nat.le_refl _), fun i hi => ?_⟩
  exact ofR_high l a 0 _ i h.lets hi (by rw [h.us]; exact Nat.le_refl _)
theorem tw_of : ∀ (l : List UInt8) (m p : Nat) (g : Nat → Nat), Lets l → l.count 117 = m → twF (p + l.count 114) (ofR l m p g) m p = l
  | [], m, p, g, _, hc => by
    simp at hc; subst hc
    show List.replicate (p + 0 - p) (114 : UInt8) = []
    simp
  | c :: l, m, p, g, hl, hc => by
    rw [List.count_cons] at hc
    rcases hl c (by simp) with e | e
    · subst e
      simp at hc
      obtain ⟨m', rfl⟩ : ∃ m', m = m' + 1 := ⟨m - 1, by omega⟩
      have e2 : ofR (117 :: l) (m' + 1) p g = ofR l m' p (upf g m' p) := rfl
      have ih := tw_of l m' p (upf g m' p) hl.tail (by omega)
      have e3 : ofR l m' p (upf g m' p) m' = p := by rw [ofR_high l m' p _ m' hl.tail (Nat.le_refl _) (by omega), upf_at]
      have e4 : (117 :: l).count (114 : UInt8) = l.count 114 := by simp [List.count_cons]
      rw [e2, e4, twF, e3, ih, Nat.sub_self]; rfl
    · subst e
      have hc' : l.count 117 = m := by simpa using hc
      have e2 : ofR (114 :: l) m p g = ofR l m (p + 1) g := rfl
      have ih := tw_of l m (p + 1) g hl.tail hc'
      have e4 : (114 :: l).count (114 : UInt8) = l.count 114 + 1 := by simp [List.count_cons]
      rw [e2, e4, show p + (l.count 114 + 1) = p + 1 + l.count 114 by omega]
      conv => rhs; rw [← ih]
      cases m with
      | zero =>
        rw [twF, twF, ← List.replicate_succ]
        congr 1; omega
      | succ m =>
        have hge := ofR_ge l (m + 1) (p + 1) g hl.tail hc' (by omega)
        rw [Nat.add_sub_cancel] at hge
        rw [twF, twF]
        generalize ofR l (m + 1) (p + 1) g = G at *
        rw [show G m - p = (G m - (p + 1)) + 1 by omega, List.replicate_succ]; rfl
theorem word_of {a b : Nat} {l : List UInt8} (ha : 1 ≤ a) (h : IsW a b l) : wordF a b (ofF a l) = l := by
  rw [word_tw ha]
  have := tw_of l a 0 (fun _ => 0) h.lets h.us
  rwa [h.rs, Nat.zero_add] at this
theorem ofR_rep (l : List UInt8) (m : Nat) (h : Nat → Nat) : ∀ k p, ofR (List.replicate k 114 ++ l) m p h = ofR l m (p + k) h
  | 0, p => rfl
  | k + 1, p => by
    rw [List.replicate_succ]
    have e2 : ofR (114 :: List.replicate k 114 ++ l) m p h = ofR (List.replicate k 114 ++ l) m (p + 1) h := rfl
    rw [e2, ofR_rep l m h k, show p + 1 + k = p + (k + 1) by omega]
theorem of_tw (b : Nat) (g : Nat → Nat) (hg : ∀ i, g (i + 1) ≤ g i) : ∀ m p h, (0 < m → p ≤ g (m - 1)) → ofR (twF b g m p) m p h = fun i => if i < m then g i else h i
  | 0, p, h, _ => by
    rw [twF]
    have := ofR_rep [] 0 h (b - p) p
    rw [List.append_nil] at this
    rw [this]
    funext i
    rw [if_neg (by omega)]; rfl
  | m + 1, p, h, hp => by
    have hp' := hp (by omega)
    rw [Nat.add_sub_cancel] at hp'
    rw [twF, ofR_rep, show p + (g m - p) = g m by omega]
    have e2 : ofR (117 :: twF b g m (g m)) (m + 1) (g m) h = ofR (twF b g m (g m)) m (g m) (upf h m (g m)) := rfl
    rw [e2, of_tw b g hg m (g m) _ (fun h0 => by have := hg (m - 1); rwa [show m - 1 + 1 = m by omega] at this)]
    funext i
    unfold upf
    by_cases h1 : i < m
    · rw [if_pos h1, if_pos (by omega)]
    · rw [if_neg h1]
      by_cases h2 : i = m
      · subst h2; rw [if_pos rfl, if_pos (by omega)]
      · rw [if_neg h2, if_neg (by omega)]
theorem of_word {a b : Nat} {g : Nat → Nat} (h : IsS a b g) : ofF a (wordF a b g) = g := by
  rw [word_tw h.p.a1]
  unfold ofF
  rw [of_tw b g h.dn a 0 _ (fun _ => by omega)]
  funext i
  split
  · rfl
  · rw [h.zr i (by omega)]
theorem tw_counts (b : Nat) (g : Nat → Nat) (hg : ∀ i, g (i + 1) ≤ g i) (hb : ∀ i, g i ≤ b) : ∀ m p, p ≤ b → (0 < m → p ≤ g (m - 1)) → (twF b g m p).length = m + (b - p) ∧ (twF b g m p).count 117 = m ∧ (twF b g m p).count 114 = b - p
  | 0, p, _, _ => by
    rw [twF]
    refine ⟨by simp, ?_, by rw [List.count_replicate_self]⟩
    rw [List.count_replicate]; simp
  | m + 1, p, h, hp => by
    have hp' := hp (by omega)
    rw [Nat.add_sub_cancel] at hp'
    have hbm := hb m
    obtain ⟨h1, h2, h3⟩ := tw_counts b g hg hb m (g m) hbm (fun h0 => by have := hg (m - 1); rwa [show m - 1 + 1 = m by omega] at this)
    rw [twF]
    refine ⟨?_, ?_, ?_⟩
    · rw [List.length_append, List.length_replicate, List.length_cons, h1]; omega
    · rw [List.count_append, List.count_cons, h2, List.count_replicate]; simp
    · rw [List.count_append, List.count_cons, h3, List.count_replicate_self]; simp; omega
theorem word_W {a b : Nat} {g : Nat → Nat} (h : IsS a b g) : IsW a b (wordF a b g) := by
  rw [word_tw h.p.a1]
  obtain ⟨h1, h2, h3⟩ := tw_counts b g h.dn h.p.gb a 0 (by omega) (fun _ => by omega)
  exact ⟨by rw [h1]; omega, h2, by rw [h3]; omega⟩
theorem word_inj {a b : Nat} {g h : Nat → Nat} (hg : IsS a b g) (hh : IsS a b h) (e : wordF a b g = wordF a b h) : g = h := by
  rw [← of_word hg, ← of_word hh, e]
end Go.Proofs.Ytniknldeafmgaaa
