/- Layer 7, mathematics: Fibonacci numbers, tails, and Grundy's numbers. -/
import Derived.WalkKit
namespace Go.Proofs.Ytdafpjapepfniaa

/-- The k-th Fibonacci number: 1, 2, 3, 5, 8 .. -/
def fb : Nat → Nat
  | 0 => 1
  | 1 => 2
  | k + 2 => fb k + fb (k + 1)
theorem fb_succ (k : Nat) : fb (k + 2) = fb k + fb (k + 1) := rfl
theorem fb_pos : ∀ k, 1 ≤ fb k
  | 0 => by decide
  | 1 => by decide
  | k + 2 => by rw [fb_succ]; have := fb_pos k; omega
theorem fb_lt : ∀ k, fb k < fb (k + 1)
  | 0 => by decide
  | k + 1 => by rw [fb_succ]; have := fb_pos k; omega
theorem fb_mono {j k : Nat} (h : j ≤ k) : fb j ≤ fb k := by
  induction k with
  | zero => obtain rfl : j = 0 := by omega
            exact Nat.le_refl _
  | succ k ih =>
    by_cases e : j = k + 1
    · rw [e]; exact Nat.le_refl _
    · have := ih (by omega); have := fb_lt k; omega
theorem fb_inj {j k : Nat} (h : fb j = fb k) : j = k := by
  rcases Nat.lt_trichotomy j k with h1 | h1 | h1
  · have h2 := fb_mono (show j + 1 ≤ k by omega); have := fb_lt j; omega
  · exact h1
  · have h2 := fb_mono (show k + 1 ≤ j by omega); have := fb_lt k; omega
theorem fb_big : ∀ k, k < fb k
  | 0 => by decide
  | 1 => by decide
  | k + 2 => by rw [fb_succ]; have := fb_big k; have := fb_big (k + 1); omega
theorem fb_half (k : Nat) : fb (k + 1) ≤ 2 * fb k := by
  cases k with
  | zero => decide
  | succ k => rw [fb_succ]; have := fb_lt k; omega
/-- The indices of the Fibonacci numbers of n, of those below k, the greatest first. -/
def zk : Nat → Nat → List Nat
  | 0, _ => []
  | k + 1, n => if fb k ≤ n then k :: zk k (n - fb k) else zk k n
theorem zk_ext {k n : Nat} (h : n < fb k) : ∀ {j : Nat}, k ≤ j → zk j n = zk k n := by
  intro j
  induction j with
  | zero => intro hj; obtain rfl : k = 0 := by omega
            rfl
  | succ j ih =>
    intro hj
    by_cases e : k = j + 1
    · rw [e]
    · have := fb_mono (show k ≤ j by omega)
      rw [zk, if_neg (by omega)]; exact ih (by omega)
/-- Indices below k, no two following one another, the greatest first. -/
def IsZ : Nat → List Nat → Prop
  | _, [] => True
  | k, a :: l => a < k ∧ IsZ (a - 1) l
theorem IsZ.mono {j k : Nat} (h : j ≤ k) : ∀ {l : List Nat}, IsZ j l → IsZ k l
  | [], _ => trivial
  | a :: l, h1 => ⟨by have := h1.1; omega, h1.2⟩
def sm (l : List Nat) : Nat := (l.map fb).sum
theorem sm_nil : sm [] = 0 := rfl
theorem sm_cons (a : Nat) (l : List Nat) : sm (a :: l) = fb a + sm l := by simp [sm]
theorem sm_append (a b : List Nat) : sm (a ++ b) = sm a + sm b := by simp [sm]
theorem rest_lt {k n : Nat} (h : n < fb (k + 1)) (h2 : fb k ≤ n) : n - fb k < fb (k - 1) := by
  cases k with
  | zero => have h3 : fb (0 + 1) = 2 := rfl
            have h4 : fb 0 = 1 := rfl
            have h5 : fb (0 - 1) = 1 := rfl
            omega
  | succ k => rw [fb_succ] at h; rw [show k + 1 - 1 = k by omega]; omega
theorem zk_isZ : ∀ {k n : Nat}, n < fb k → IsZ k (zk k n)
  | 0, n, h => trivial
  | k + 1, n, h => by
    rw [zk]
    by_cases e : fb k ≤ n
    · have h1 := rest_lt h e
      rw [if_pos e]
      refine ⟨by omega, ?_⟩
      rw [zk_ext h1 (Nat.sub_le _ _)]
      exact zk_isZ h1
    · rw [if_neg e]; exact (zk_isZ (by omega)).mono (by omega)
theorem zk_sum : ∀ {k n : Nat}, n < fb k → sm (zk k n) = n
  | 0, n, h => by have h4 : fb 0 = 1 := rfl
                  rw [zk, sm_nil]; omega
  | k + 1, n, h => by
    rw [zk]
    by_cases e : fb k ≤ n
    · have h1 := rest_lt h e
      rw [if_pos e, sm_cons, zk_ext h1 (Nat.sub_le _ _), zk_sum h1]; omega
    · rw [if_neg e]; exact zk_sum (by omega)
theorem sm_lt : ∀ {k : Nat} {l : List Nat}, IsZ k l → sm l < fb k
  | k, [], _ => by rw [sm_nil]; exact fb_pos k
  | k, a :: l, h => by
    have h1 := sm_lt h.2
    have h2 := fb_mono (show a + 1 ≤ k from h.1)
    rw [sm_cons]
    cases a with
    | zero =>
      cases l with
      | nil => rw [sm_nil]; have h3 : fb (0 + 1) = 2 := rfl
               have h4 : fb 0 = 1 := rfl
               omega
      | cons b l => have := h.2.1; omega
    | succ a => rw [show a + 1 - 1 = a by omega] at h1; rw [fb_succ] at h2; omega
theorem zk_uniq : ∀ {k : Nat} {l : List Nat}, IsZ k l → zk k (sm l) = l
  | 0, [], _ => rfl
  | 0, a :: l, h => absurd h.1 (by omega)
  | k + 1, [], h => by
    rw [zk, if_neg (by rw [sm_nil]; have := fb_pos k; omega)]
    exact zk_uniq (k := k) (l := []) trivial
  | k + 1, a :: l, h => by
    by_cases e : a = k
    · subst e
      rw [zk, sm_cons, if_pos (by omega), Nat.add_sub_cancel_left, zk_uniq (h.2.mono (by omega))]
    · have h1 : IsZ k (a :: l) := ⟨by have := h.1; omega, h.2⟩
      have := sm_lt h1
      rw [zk, if_neg (by omega)]; exact zk_uniq h1
/-- The indices of all Fibonacci numbers of n. -/
def zx (n : Nat) : List Nat := zk n n
theorem zx_at {k n : Nat} (h : n < fb k) : zk k n = zx n := by
  unfold zx
  rcases Nat.le_total k n with h1 | h1
  · exact (zk_ext h h1).symm
  · exact zk_ext (fb_big n) h1
theorem zx_isZ (n : Nat) : IsZ n (zx n) := zk_isZ (fb_big n)
theorem zx_sum (n : Nat) : sm (zx n) = n := zk_sum (fb_big n)
theorem zx_uniq {k : Nat} {l : List Nat} (h : IsZ k l) : zx (sm l) = l := by rw [← zx_at (sm_lt h), zk_uniq h]
/-- The tail. -/
def tl (n : Nat) : Nat := ((zx n).getLast?.map fb).getD 0
theorem tl_at {k : Nat} {l : List Nat} {a : Nat} (h : IsZ k (l ++ [a])) : tl (sm (l ++ [a])) = fb a := by rw [tl, zx_uniq h]; simp
theorem split_last (l : List Nat) : l = [] ∨ ∃ l0 a, l = l0 ++ [a] := by
  rcases List.eq_nil_or_concat l with h | ⟨l0, a, h⟩
  · exact .inl h
  · exact .inr ⟨l0, a, by rw [h, List.concat_eq_append]⟩
theorem zx_last (n : Nat) (h : 0 < n) : ∃ l a, zx n = l ++ [a] ∧ IsZ n (l ++ [a]) ∧ sm (l ++ [a]) = n ∧ tl n = fb a := by
  have h1 := zx_isZ n
  have h2 := zx_sum n
  rcases split_last (zx n) with e | ⟨l, a, e⟩
  · rw [e, sm_nil] at h2; omega
  · rw [e] at h1 h2
    exact ⟨l, a, e, h1, h2, by have := tl_at h1; rwa [h2] at this⟩
theorem IsZ.init : ∀ {k : Nat} {l m : List Nat}, IsZ k (l ++ m) → IsZ k l
  | _, [], _, _ => trivial
  | _, a :: l, m, h => ⟨h.1, IsZ.init (l := l) (m := m) h.2⟩
theorem IsZ.put : ∀ {k a : Nat} {l z : List Nat}, IsZ k (l ++ [a]) → IsZ a z → IsZ k (l ++ z)
  | k, a, [], z, h, hz => hz.mono (by have := h.1; omega)
  | k, a, b :: l, z, h, hz => ⟨h.1, IsZ.put (l := l) h.2 hz⟩
theorem IsZ.gap : ∀ {k a b : Nat} {l : List Nat}, IsZ k (l ++ [b, a]) → a + 2 ≤ b
  | k, a, b, [], h => by have := h.2.1; omega
  | k, a, b, c :: l, h => IsZ.gap (l := l) h.2
theorem IsZ.more : ∀ {k a : Nat} {l z : List Nat}, IsZ k (l ++ [a]) → IsZ (a - 1) z → IsZ k (l ++ [a] ++ z)
  | k, a, [], z, h, hz => ⟨h.1, hz⟩
  | k, a, b :: l, z, h, hz => ⟨h.1, IsZ.more (l := l) h.2 hz⟩
theorem tl_le (n : Nat) (h : 0 < n) : 0 < tl n ∧ tl n ≤ n := by
  obtain ⟨l, a, _, _, h2, h3⟩ := zx_last n h
  rw [h3, ← h2, sm_append, sm_cons, sm_nil]
  have := fb_pos a
  omega
theorem tl_zero : tl 0 = 0 := by decide
/-- Behind the tail comes a greater tail. -/
theorem tl_behind (n : Nat) (h : 0 < n) : n = tl n ∨ 2 * tl n < tl (n - tl n) := by
  obtain ⟨l, a, _, h1, h2, h3⟩ := zx_last n h
  rw [h3]
  have h4 : n - fb a = sm l := by rw [← h2, sm_append, sm_cons, sm_nil]; omega
  rcases split_last l with rfl | ⟨l0, b, rfl⟩
  · left; rw [← h2, List.nil_append, sm_cons, sm_nil]; omega
  · right
    rw [h4, tl_at h1.init]
    have hg := IsZ.gap (k := n) (a := a) (b := b) (l := l0) (by simpa using h1)
    have h8 := fb_mono hg
    have := fb_lt a
    rw [fb_succ] at h8
    omega
theorem tl_small (a t : Nat) (h0 : 0 < t) (h1 : t < fb a) : tl (fb a - t) ≤ 2 * t := by
  obtain ⟨l, j, e, hz, hs, ht⟩ := zx_last (fb a - t) (by omega)
  rw [ht]
  refine Nat.le_of_not_lt fun hlt => ?_
  have hj : 0 < j := by
    rcases Nat.eq_zero_or_pos j with rfl | h
    · have h4 : fb 0 = 1 := rfl
      omega
    · exact h
  have hh := fb_half (j - 1)
  rw [show j - 1 + 1 = j by omega] at hh
  have hz2 : IsZ a (l ++ [j]) := by
    have h5 : fb a - t < fb a := by omega
    have := zk_isZ h5
    rwa [zx_at h5, e] at this
  have hzt := zk_isZ (show t < fb (j - 1) by omega)
  have := sm_lt (hz2.more hzt)
  rw [sm_append, hs, zk_sum (by omega)] at this
  omega
/-- Less than the tail leaves a tail that can be taken. -/
theorem tl_less (n t : Nat) (h0 : 0 < t) (h1 : t < tl n) : t < n ∧ tl (n - t) ≤ 2 * t := by
  rcases Nat.eq_zero_or_pos n with rfl | hn
  · rw [tl_zero] at h1; omega
  obtain ⟨l, a, _, hz, h2, h3⟩ := zx_last n hn
  have h5 := tl_le n hn
  refine ⟨by omega, ?_⟩
  rw [h3] at h1
  have h6 := tl_small a t h0 h1
  obtain ⟨l2, j, e, hzr, hs, ht⟩ := zx_last (fb a - t) (by omega)
  have hz2 : IsZ a (l2 ++ [j]) := by
    have h5 : fb a - t < fb a := by omega
    have := zk_isZ h5
    rwa [zx_at h5, e] at this
  have h7 := hz.put hz2
  have h8 : n - t = sm (l ++ l2 ++ [j]) := by
    rw [List.append_assoc, sm_append, hs, ← h2, sm_append, sm_cons, sm_nil]; omega
  rw [← List.append_assoc] at h7
  rw [h8, tl_at h7, ← ht]
  exact h6
/-- Does the player who is next win Fibonacci nim? -/
def nimW (n l : Nat) : Bool := decide (0 < n ∧ tl n ≤ l)
/-- The one who is next wins exactly if some move leaves the other one no win. -/
theorem nimW_iff (n l : Nat) : nimW n l = true ↔ ∃ t, 0 < t ∧ t ≤ n ∧ t ≤ l ∧ nimW (n - t) (2 * t) = false := by
  simp only [nimW, decide_eq_true_eq, decide_eq_false_iff_not]
  constructor
  · intro ⟨h0, h1⟩
    have h2 := tl_le n h0
    refine ⟨tl n, h2.1, h2.2, h1, ?_⟩
    rcases tl_behind n h0 with h | h <;> omega
  · intro ⟨t, h0, h1, h2, h3⟩
    refine ⟨by omega, Nat.le_of_not_lt fun h4 => h3 ?_⟩
    have h5 := tl_less n t h0 (by omega)
    omega
/-- No fewer than the tail win. -/
theorem nim_least (n t : Nat) (h0 : 0 < t) (h1 : t < tl n) : nimW (n - t) (2 * t) = true := by
  have h5 := tl_less n t h0 h1
  simp only [nimW, decide_eq_true_eq]; omega
theorem nim_tail (n : Nat) (h0 : 0 < n) : nimW (n - tl n) (2 * tl n) = false := by
  simp only [nimW, decide_eq_false_iff_not]
  rcases tl_behind n h0 with h | h <;> omega
/-- The first number from v on that is not in a list, as far as n more. -/
def mex (L : List Nat) : Nat → Nat → Nat
  | 0, v => v
  | n + 1, v => if v ∈ L then mex L n (v + 1) else v
theorem mex_ge (L : List Nat) : ∀ n v, v ≤ mex L n v ∧ mex L n v ≤ v + n ∧ (∀ u, v ≤ u → u < mex L n v → u ∈ L)
  | 0, v => ⟨Nat.le_refl _, Nat.le_refl _, fun u h1 h2 => by simp [mex] at h2; omega⟩
  | n + 1, v => by
    rw [mex]
    split
    · rename_i h
      obtain ⟨h1, h2, h3⟩ := mex_ge L n (v + 1)
      refine ⟨by omega, by omega, fun u hu1 hu2 => ?_⟩
      by_cases e : u = v
      · rw [e]; exact h
      · exact h3 u (by omega) hu2
    · exact ⟨Nat.le_refl _, by omega, fun u h1 h2 => by omega⟩
theorem mex_out (L : List Nat) : ∀ n v, (∃ u, v ≤ u ∧ u ≤ v + n ∧ u ∉ L) → mex L n v ∉ L
  | 0, v, ⟨u, h1, h2, h3⟩ => by obtain rfl : u = v := by omega
                                exact h3
  | n + 1, v, ⟨u, h1, h2, h3⟩ => by
    rw [mex]
    split
    · rename_i h
      exact mex_out L n (v + 1) ⟨u, (by by_cases e : u = v; exact absurd (e ▸ h) h3; omega), by omega, h3⟩
    · rename_i h; exact h
/-- x is the least number that is not in L. -/
def IsMex (L : List Nat) (x : Nat) : Prop := x ∉ L ∧ ∀ u, u < x → u ∈ L
theorem IsMex.eq {L : List Nat} {x y : Nat} (h : IsMex L x) (k : IsMex L y) : x = y := by
  rcases Nat.lt_trichotomy x y with h1 | h1 | h1
  · exact absurd (k.2 x h1) h.1
  · exact h1
  · exact absurd (h.2 y h1) k.1
theorem isMex_le : ∀ {L : List Nat} {x : Nat}, (∀ u, u < x → u ∈ L) → x ≤ L.length := by
  intro L x
  induction x generalizing L with
  | zero => intro _; omega
  | succ x ih =>
    intro h
    have hx := h x (by omega)
    have := ih (L := L.erase x) fun u hu => (List.mem_erase_of_ne (by omega)).2 (h u (by omega))
    rw [List.length_erase_of_mem hx] at this
    have := List.length_pos_of_mem hx
    omega
/-- The numbers of the positions after each of t moves in a heap of h. -/
def mv (g : Nat → Nat → Nat) (h t : Nat) : List Nat := (List.range t).map fun i => g (h - (i + 1)) (min (2 * (i + 1)) (h - (i + 1)))
/-- Grundy's numbers of the heaps below k. -/
def gt : Nat → Nat → Nat → Nat
  | 0 => fun _ _ => 0
  | k + 1 => fun r t => if r < k then gt k r t else mex (mv (gt k) k t) (k + 1) 0
/-- Grundy's number of a heap of h with the limit t, at most h. -/
def gr (h t : Nat) : Nat := gt (h + 1) h t
theorem gt_eq {k r t : Nat} (h : r < k) : gt k r t = gr r t := by
  induction k with
  | zero => omega
  | succ k ih =>
    by_cases e : r < k
    · rw [← ih e]; show (if r < k then _ else _) = _; rw [if_pos e]
    · obtain rfl : r = k := by omega
      rfl
theorem mv_eq {h t : Nat} (ht : t ≤ h) : mv (gt h) h t = mv gr h t := by
  unfold mv
  refine List.map_congr_left fun i hi => ?_
  have := List.mem_range.1 hi
  exact gt_eq (by omega)
theorem gr_mex (h t : Nat) (ht : t ≤ h) : gr h t = mex (mv gr h t) (h + 1) 0 := by
  show (if h < h then _ else _) = _
  rw [if_neg (Nat.lt_irrefl _), mv_eq ht]
theorem mem_mv {g : Nat → Nat → Nat} {h t v : Nat} : v ∈ mv g h t ↔ ∃ i, i < t ∧ g (h - (i + 1)) (min (2 * (i + 1)) (h - (i + 1))) = v := by
  simp [mv]
theorem mv_length (g : Nat → Nat → Nat) (h t : Nat) : (mv g h t).length = t := by simp [mv]
theorem gr_is (h : Nat) : ∀ t, t ≤ h → IsMex (mv gr h t) (gr h t) ∧ gr h t ≤ t := by
  induction h using Nat.strongRecOn with
  | ind h ih =>
    intro t ht
    have hsm : ∀ v ∈ mv gr h t, v < h := fun v hv => by
      obtain ⟨i, hi, rfl⟩ := mem_mv.1 hv
      have := (ih (h - (i + 1)) (by omega) (min (2 * (i + 1)) (h - (i + 1))) (by omega)).2
      omega
    have h1 : IsMex (mv gr h t) (gr h t) := by
      rw [gr_mex h t ht]
      exact ⟨mex_out _ _ _ ⟨h, by omega, by omega, fun hm => by have := hsm h hm; omega⟩, fun u hu => (mex_ge _ _ _).2.2 u (by omega) hu⟩
    refine ⟨h1, ?_⟩
    have := isMex_le h1.2
    rwa [mv_length] at this
theorem gr_mono {h s t : Nat} (hs : s ≤ t) (ht : t ≤ h) : gr h s ≤ gr h t := by
  obtain ⟨h1, _⟩ := gr_is h s (by omega)
  obtain ⟨h2, _⟩ := gr_is h t ht
  refine Nat.le_of_not_lt fun hlt => h2.1 ?_
  obtain ⟨i, hi, e⟩ := mem_mv.1 (h1.2 _ hlt)
  exact mem_mv.2 ⟨i, by omega, e⟩
theorem nimW_min (n l : Nat) : nimW n (min l n) = nimW n l := by
  unfold nimW
  rcases Nat.eq_zero_or_pos n with rfl | h
  · simp
  · have := (tl_le n h).2
    congr 1
    simp only [eq_iff_iff]
    omega
theorem gr_zero (h : Nat) : ∀ t, t ≤ h → (gr h t = 0 ↔ nimW h t = false) := by
  induction h using Nat.strongRecOn with
  | ind h ih =>
    intro t ht
    obtain ⟨h1, _⟩ := gr_is h t ht
    rw [← Bool.not_eq_true, nimW_iff]
    constructor
    · intro h0 ⟨x, hx0, hxh, hxt, hw⟩
      refine h1.1 (mem_mv.2 ⟨x - 1, by omega, ?_⟩)
      rw [h0, show x - 1 + 1 = x by omega]
      exact (ih (h - x) (by omega) _ (by omega)).2 (by rw [nimW_min]; exact hw)
    · intro hno
      refine Nat.eq_zero_of_not_pos fun hp => hno ?_
      obtain ⟨i, hi, e⟩ := mem_mv.1 (h1.2 0 hp)
      exact ⟨i + 1, by omega, by omega, by omega, by rw [← nimW_min]; exact (ih (h - (i + 1)) (by omega) _ (by omega)).1 e⟩
/-- The mark of one move more. -/
theorem mv_succ (g : Nat → Nat → Nat) (h t : Nat) : mv g h (t + 1) = mv g h t ++ [g (h - (t + 1)) (min (2 * (t + 1)) (h - (t + 1)))] := by simp [mv, List.range_succ]
end Go.Proofs.Ytdafpjapepfniaa
