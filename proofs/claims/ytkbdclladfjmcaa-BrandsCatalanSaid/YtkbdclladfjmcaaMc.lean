/- Layer 2: the mathematics of brands (M1 M2 M3 M4). Layer 2: the mathematics of brands (M5 M6). Layer 2: the mathematics of brands (M7 M8). -/
import Derived.Test.YtkbdclladfjmcaaCi
namespace Go.Proofs.Ytkbdclladfjmcaa
section
open Go Go.RowKit

/-- Lines of a polygon of n corners, different, none of which crosses another one. -/
def Lns (n : Int) (L : List (Int × Int)) : Prop := (∀ q ∈ L, LineP n q) ∧ (∀ p ∈ L, ∀ q ∈ L, ¬ CutP p q) ∧ L.Nodup
/-- No line ends at corner x. -/
def Bare (L : List (Int × Int)) (x : Int) : Prop := ∀ q ∈ L, q.1 ≠ x ∧ q.2 ≠ x
theorem short_one : ∀ {L : List (Int × Int)}, L ≠ [] → ∃ q ∈ L, ∀ p ∈ L, q.2 - q.1 ≤ p.2 - p.1 := by
  intro L
  induction L with
  | nil => intro h; exact absurd rfl h
  | cons a L ih =>
    intro _
    by_cases h : L = []
    · subst h
      exact ⟨a, by simp, fun p hp => by simp at hp; subst hp; omega⟩
    · obtain ⟨q, hq, hm⟩ := ih h
      by_cases hc : q.2 - q.1 ≤ a.2 - a.1
      · refine ⟨q, List.mem_cons_of_mem _ hq, fun p hp => ?_⟩
        rcases List.mem_cons.1 hp with rfl | hp
        · exact hc
        · exact hm p hp
      · refine ⟨a, by simp, fun p hp => ?_⟩
        rcases List.mem_cons.1 hp with rfl | hp
        · omega
        · have := hm p hp; omega
theorem bare_one {n : Int} {L : List (Int × Int)} (h : Lns n L) (hn : 3 ≤ n) : ∃ x, 0 ≤ x ∧ x < n ∧ Bare L x := by
  by_cases h0 : L = []
  · subst h0
    exact ⟨0, by omega, by omega, fun q hq => by simp at hq⟩
  · obtain ⟨q, hq, hm⟩ := short_one h0
    have l1 := h.1 q hq
    unfold LineP at l1
    refine ⟨q.1 + 1, by omega, by omega, fun p hp => ?_⟩
    have l2 := h.1 p hp
    have c1 := h.2.1 p hp q hq
    have c2 := h.2.1 q hq p hp
    have := hm p hp
    unfold LineP at l2
    unfold CutP at c1 c2
    omega
/-- The line that cuts off corner x. -/
def ex (n x : Int) : Int × Int := if x = 0 then (1, n - 1) else if x = n - 1 then (0, n - 2) else (x - 1, x + 1)
/-- The corners' numbers without corner x; and back. -/
def sh (x k : Int) : Int := if k < x then k else k - 1
def li (x k : Int) : Int := if k < x then k else k + 1
def shP (x : Int) (q : Int × Int) : Int × Int := (sh x q.1, sh x q.2)
def liP (x : Int) (q : Int × Int) : Int × Int := (li x q.1, li x q.2)
theorem sh_li (x k : Int) : sh x (li x k) = k := by unfold sh li; (repeat' split) <;> omega
theorem li_sh {x k : Int} (h : k ≠ x) : li x (sh x k) = k := by unfold sh li; (repeat' split) <;> omega
theorem li_ne (x k : Int) : li x k ≠ x := by unfold li; split <;> omega
theorem sh_lt {x a b : Int} (_ha : a ≠ x) (hb : b ≠ x) : sh x a < sh x b ↔ a < b := by unfold sh; split <;> split <;> omega
theorem li_lt (x a b : Int) : li x a < li x b ↔ a < b := by unfold li; split <;> split <;> omega
theorem shP_liP (x : Int) (q : Int × Int) : shP x (liP x q) = q := by simp [shP, liP, sh_li]
theorem liP_shP {x : Int} {q : Int × Int} (h1 : q.1 ≠ x) (h2 : q.2 ≠ x) : liP x (shP x q) = q := by simp [shP, liP, li_sh h1, li_sh h2]
theorem shP_cut {x : Int} {p q : Int × Int} (h1 : p.1 ≠ x) (h2 : p.2 ≠ x) (h3 : q.1 ≠ x) (h4 : q.2 ≠ x) : CutP (shP x p) (shP x q) ↔ CutP p q := by
  unfold CutP shP; rw [sh_lt h1 h3, sh_lt h3 h2, sh_lt h2 h4]
theorem liP_cut (x : Int) (p q : Int × Int) : CutP (liP x p) (liP x q) ↔ CutP p q := by
  unfold CutP liP; simp only [li_lt]
theorem shP_line {n x : Int} {q : Int × Int} (h : LineP n q) (h1 : q.1 ≠ x) (h2 : q.2 ≠ x) (h0 : 0 ≤ x) (hx : x < n) (he : q ≠ ex n x) : LineP (n - 1) (shP x q) := by
  obtain ⟨a, b⟩ := q
  unfold ex at he
  unfold LineP shP sh at *
  simp only [] at *
  split at he <;> (try split at he) <;> simp only [ne_eq, Prod.mk.injEq] at he <;> (repeat' split) <;> omega
theorem liP_line {n x : Int} {q : Int × Int} (h : LineP (n - 1) q) (_h0 : 0 ≤ x) (_hx : x < n) : LineP n (liP x q) ∧ liP x q ≠ ex n x := by
  obtain ⟨a, b⟩ := q
  unfold ex
  unfold LineP liP li at *
  simp only [] at *
  refine ⟨?_, ?_⟩
  · (repeat' split) <;> omega
  · (repeat' split) <;> simp only [ne_eq, Prod.mk.injEq] <;> omega
theorem ex_line {n x : Int} (hn : 4 ≤ n) (h0 : 0 ≤ x) (hx : x < n) : LineP n (ex n x) ∧ (ex n x).1 ≠ x ∧ (ex n x).2 ≠ x := by
  unfold ex LineP
  (repeat' split) <;> simp only [] <;> omega
/-- The lines when corner x is cut off. -/
def cutB (n x : Int) (L : List (Int × Int)) : List (Int × Int) := (L.filter fun q => decide (q ≠ ex n x)).map (shP x)
theorem mem_cutB {n x : Int} {L : List (Int × Int)} (hb : Bare L x) {q : Int × Int} : q ∈ cutB n x L ↔ liP x q ∈ L ∧ liP x q ≠ ex n x := by
  unfold cutB
  rw [List.mem_map]
  constructor
  · rintro ⟨p, hp, rfl⟩
    rw [List.mem_filter] at hp
    have := hb p hp.1
    rw [liP_shP this.1 this.2]
    exact ⟨hp.1, by simpa using hp.2⟩
  · rintro ⟨h1, h2⟩
    exact ⟨liP x q, List.mem_filter.2 ⟨h1, by simpa using h2⟩, shP_liP x q⟩
theorem nodup_map_on {α β : Type} {f : α → β} : ∀ {L : List α}, L.Nodup → (∀ a ∈ L, ∀ b ∈ L, f a = f b → a = b) → (L.map f).Nodup := by
  intro L
  induction L with
  | nil => intro _ _; simp
  | cons a L ih =>
    intro h hi
    rw [List.map_cons, List.nodup_cons] at *
    refine ⟨fun hm => ?_, ih h.2 fun x hx y hy => hi x (List.mem_cons_of_mem _ hx) y (List.mem_cons_of_mem _ hy)⟩
    obtain ⟨b, hb, e⟩ := List.mem_map.1 hm
    have := hi b (List.mem_cons_of_mem _ hb) a (by simp) e
    subst this
    exact h.1 hb
theorem cutB_lns {n x : Int} {L : List (Int × Int)} (h : Lns n L) (hb : Bare L x) (h0 : 0 ≤ x) (hx : x < n) : Lns (n - 1) (cutB n x L) := by
  refine ⟨fun q hq => ?_, fun p hp q hq hc => ?_, ?_⟩
  · obtain ⟨h1, h2⟩ := (mem_cutB hb).1 hq
    have l := shP_line (h.1 _ h1) (li_ne x _) (li_ne x _) h0 hx h2
    rwa [shP_liP] at l
  · have hp1 := ((mem_cutB hb).1 hp).1
    have hq1 := ((mem_cutB hb).1 hq).1
    exact h.2.1 _ hp1 _ hq1 ((liP_cut x p q).2 hc)
  · unfold cutB
    refine nodup_map_on (h.2.2.filter _) fun a ha b hb' e => ?_
    have h1 := hb a (List.mem_filter.1 ha).1
    have h2 := hb b (List.mem_filter.1 hb').1
    rw [← liP_shP h1.1 h1.2, ← liP_shP h2.1 h2.2, e]
theorem cutB_length {n x : Int} {L : List (Int × Int)} (h : L.Nodup) : (cutB n x L).length = if ex n x ∈ L then L.length - 1 else L.length := by
  unfold cutB
  rw [List.length_map]
  have e : (L.filter fun q => decide (q ≠ ex n x)) = L.erase (ex n x) := by
    rw [h.erase_eq_filter]
    congr 1
    funext q
    rw [Bool.eq_iff_iff]
    simp
  rw [e, List.length_erase]
/-- There are no more than n - 3 lines. -/
theorem lns_most : ∀ (m : Nat) {L : List (Int × Int)}, Lns (m + 3) L → L.length ≤ m := by
  intro m
  induction m with
  | zero =>
    intro L h
    cases L with
    | nil => simp
    | cons q L =>
      have := h.1 q (by simp)
      unfold LineP at this
      omega
  | succ m ih =>
    intro L h
    obtain ⟨x, h0, hx, hb⟩ := bare_one h (by omega)
    have h1 := cutB_lns h hb h0 hx
    rw [show ((m + 1 : Nat) : Int) + 3 - 1 = m + 3 by omega] at h1
    have h2 := ih h1
    rw [cutB_length h.2.2] at h2
    split at h2 <;> omega
/-- As many as there can be. -/
def Full (n : Int) (L : List (Int × Int)) : Prop := Lns n L ∧ 3 ≤ n ∧ (L.length : Int) = n - 3
theorem Full.ear {n x : Int} {L : List (Int × Int)} (h : Full n L) (hn : 4 ≤ n) (hb : Bare L x) (h0 : 0 ≤ x) (hx : x < n) : ex n x ∈ L ∧ Full (n - 1) (cutB n x L) := by
  have h1 := cutB_lns h.1 hb h0 hx
  have hl := cutB_length (n := n) (x := x) h.1.2.2
  obtain ⟨m, hm⟩ : ∃ m : Nat, n - 1 = m + 3 := ⟨(n - 4).toNat, by omega⟩
  have h2 : (cutB n x L).length ≤ m := lns_most m (by rw [← hm]; exact h1)
  have h3 := h.2.2
  by_cases he : ex n x ∈ L
  · rw [if_pos he] at hl
    exact ⟨he, h1, by omega, by omega⟩
  · rw [if_neg he] at hl
    omega
/-- The lines when corner x is put in. -/
theorem glue_full {n x : Int} {M L : List (Int × Int)} (h : Full (n - 1) M) (hn : 4 ≤ n) (h0 : 0 ≤ x) (hx : x < n) (hp : L.Perm (ex n x :: M.map (liP x))) : Full n L ∧ Bare L x := by
  have hmem : ∀ q, q ∈ L ↔ q = ex n x ∨ ∃ p ∈ M, liP x p = q := fun q => by rw [hp.mem_iff, List.mem_cons, List.mem_map]
  have hnd : (ex n x :: M.map (liP x)).Nodup := by
    rw [List.nodup_cons]
    refine ⟨fun hm => ?_, nodup_map_on h.1.2.2 fun a _ b _ e => by rw [← shP_liP x a, ← shP_liP x b, e]⟩
    obtain ⟨p, hp', e⟩ := List.mem_map.1 hm
    exact (liP_line (h.1.1 p hp') h0 hx).2 e
  have hex := ex_line hn h0 hx
  refine ⟨⟨⟨fun q hq => ?_, fun p hp' q hq hc => ?_, hp.nodup_iff.2 hnd⟩, by omega, ?_⟩, fun q hq => ?_⟩
  · rcases (hmem q).1 hq with rfl | ⟨p, hp', rfl⟩
    · exact hex.1
    · exact (liP_line (h.1.1 p hp') h0 hx).1
  · rcases (hmem p).1 hp' with rfl | ⟨p, hp1, rfl⟩ <;> rcases (hmem q).1 hq with rfl | ⟨q, hq1, rfl⟩
    · unfold CutP at hc; omega
    · have l := h.1.1 q hq1
      unfold CutP liP li ex at hc
      unfold LineP at l
      (repeat' split at hc) <;> simp only [] at hc <;> (repeat' split at hc) <;> omega
    · have l := h.1.1 p hp1
      unfold CutP liP li ex at hc
      unfold LineP at l
      (repeat' split at hc) <;> simp only [] at hc <;> (repeat' split at hc) <;> omega
    · exact h.1.2.1 p hp1 q hq1 ((liP_cut x p q).1 hc)
  · have := hp.length_eq
    simp at this
    have := h.2.2
    omega
  · rcases (hmem q).1 hq with rfl | ⟨p, hp1, rfl⟩
    · exact hex.2
    · exact ⟨li_ne x _, li_ne x _⟩
/-- Two corners are neighbours, or joined: as omega reads it. -/
def Nr (n : Int) (L : List (Int × Int)) (i k : Int) : Prop := (k = i + 1 ∨ i = k + 1 ∨ (i = 0 ∧ k = n - 1) ∨ (k = 0 ∧ i = n - 1)) ∨ (i, k) ∈ L ∨ (k, i) ∈ L
theorem nbr_iff {n i k : Int} (_hn : 3 ≤ n) (i0 : 0 ≤ i) (i1 : i < n) (k0 : 0 ≤ k) (k1 : k < n) : Nbr n i k ↔ (k = i + 1 ∨ i = k + 1 ∨ (i = 0 ∧ k = n - 1) ∨ (k = 0 ∧ i = n - 1)) := by
  have e : ∀ a : Int, 0 ≤ a → a < n → (a + 1) % n = if a = n - 1 then 0 else a + 1 := by
    intro a h0 h1
    split
    · rename_i h; rw [h, Int.sub_add_cancel, Int.emod_self]
    · exact Int.emod_eq_of_lt (by omega) (by omega)
  unfold Nbr
  rw [e i i0 i1, e k k0 k1]
  split <;> split <;> omega
theorem nr_iff {n i k : Int} {L : List (Int × Int)} (hn : 3 ≤ n) (hl : ∀ q ∈ L, LineP n q) (i0 : 0 ≤ i) (i1 : i < n) (k0 : 0 ≤ k) (k1 : k < n) : NearP n L i k ↔ Nr n L i k := by
  unfold NearP Nr
  rw [nbr_iff hn i0 i1 k0 k1]
  by_cases h : i ≤ k
  · rw [Int.min_eq_left h, Int.max_eq_right h]
    have h2 : (k, i) ∈ L → (i, k) ∈ L := fun hm => by have := hl _ hm; unfold LineP at this; simp only [] at this; omega
    exact ⟨fun h => h.elim .inl fun h => .inr (.inl h), fun h => h.elim .inl fun h => .inr (h.elim id h2)⟩
  · rw [Int.min_eq_right (by omega), Int.max_eq_left (by omega)]
    have h2 : (i, k) ∈ L → (k, i) ∈ L := fun hm => by have := hl _ hm; unfold LineP at this; simp only [] at this; omega
    exact ⟨fun h => h.elim .inl fun h => .inr (.inr h), fun h => h.elim .inl fun h => .inr (h.elim h2 id)⟩
theorem Nr.symm {n i k : Int} {L : List (Int × Int)} (h : Nr n L i k) : Nr n L k i := by
  unfold Nr at *
  rcases h with h | h | h
  · left; omega
  · exact .inr (.inr h)
  · exact .inr (.inl h)
theorem nr_x {n x k : Int} {L : List (Int × Int)} (hb : Bare L x) (hn : 4 ≤ n) (h0 : 0 ≤ x) (hx : x < n) (k0 : 0 ≤ k) (k1 : k < n) (_hk : k ≠ x) : Nr n L x k ↔ k = (ex n x).1 ∨ k = (ex n x).2 := by
  have h1 : (x, k) ∉ L := fun h => (hb _ h).1 rfl
  have h2 : (k, x) ∉ L := fun h => (hb _ h).2 rfl
  unfold Nr ex
  simp only [h1, h2, or_false]
  (repeat' split) <;> simp only [] <;> omega
theorem nr_cut {n x i k : Int} {L : List (Int × Int)} (hf : Full n L) (hb : Bare L x) (hn : 4 ≤ n) (h0 : 0 ≤ x) (hx : x < n) (i0 : 0 ≤ i) (i1 : i < n) (k0 : 0 ≤ k) (k1 : k < n) (hi : i ≠ x) (hk : k ≠ x) (hik : i ≠ k) :
    Nr n L i k ↔ Nr (n - 1) (cutB n x L) (sh x i) (sh x k) := by
  have he := (hf.ear hn hb h0 hx).1
  have m1 : (sh x i, sh x k) ∈ cutB n x L ↔ (i, k) ∈ L ∧ (i, k) ≠ ex n x := by
    rw [mem_cutB hb]; simp only [liP, li_sh hi, li_sh hk]
  have m2 : (sh x k, sh x i) ∈ cutB n x L ↔ (k, i) ∈ L ∧ (k, i) ≠ ex n x := by
    rw [mem_cutB hb]; simp only [liP, li_sh hi, li_sh hk]
  have s : (sh x k = sh x i + 1 ∨ sh x i = sh x k + 1 ∨ (sh x i = 0 ∧ sh x k = n - 1 - 1) ∨ (sh x k = 0 ∧ sh x i = n - 1 - 1)) ↔ (k = i + 1 ∨ i = k + 1 ∨ (i = 0 ∧ k = n - 1) ∨ (k = 0 ∧ i = n - 1)) ∨ (i, k) = ex n x ∨ (k, i) = ex n x := by
    unfold sh ex
    (repeat' split) <;> simp only [Prod.mk.injEq] <;> omega
  unfold Nr
  rw [m1, m2, s]
  constructor
  · rintro (h | h | h)
    · exact .inl (.inl h)
    · by_cases e : (i, k) = ex n x
      · exact .inl (.inr (.inl e))
      · exact .inr (.inl ⟨h, e⟩)
    · by_cases e : (k, i) = ex n x
      · exact .inl (.inr (.inr e))
      · exact .inr (.inr ⟨h, e⟩)
  · rintro ((h | h | h) | h | h)
    · exact .inl h
    · exact .inr (.inl (h ▸ he))
    · exact .inr (.inr (h ▸ he))
    · exact .inr (.inl h.1)
    · exact .inr (.inr h.1)
/-! ### The list of triangles -/
theorem mem_triC {P : Nat → Nat → Bool} {a b : Nat} {t : Tri} : ∀ {k : Nat}, t ∈ triC P a b k ↔ t.1 = a ∧ t.2.1 = b ∧ b < t.2.2 ∧ t.2.2 < k ∧ P a b = true ∧ P b t.2.2 = true ∧ P a t.2.2 = true := by
  intro k
  induction k with
  | zero => simp [triC]
  | succ k ih =>
    rw [triC, List.mem_append, ih]
    obtain ⟨x, y, z⟩ := t
    simp only []
    split
    · rename_i h
      simp only [List.mem_singleton, Prod.mk.injEq]
      constructor
      · rintro (⟨h1, h2, h3, h4, h5⟩ | ⟨rfl, rfl, rfl⟩)
        · exact ⟨h1, h2, h3, by omega, h5⟩
        · exact ⟨rfl, rfl, h.1, by omega, h.2⟩
      · rintro ⟨h1, h2, h3, h4, h5⟩
        by_cases e : z = k
        · exact .inr ⟨h1, h2, e⟩
        · exact .inl ⟨h1, h2, h3, by omega, h5⟩
    · rename_i h
      simp only [List.not_mem_nil, or_false]
      constructor
      · rintro ⟨h1, h2, h3, h4, h5⟩; exact ⟨h1, h2, h3, by omega, h5⟩
      · rintro ⟨h1, h2, h3, h4, h5⟩
        by_cases e : z = k
        · subst e; exact absurd ⟨h3, h5⟩ h
        · exact ⟨h1, h2, h3, by omega, h5⟩
theorem mem_triB {P : Nat → Nat → Bool} {n a : Nat} {t : Tri} : ∀ {k : Nat}, t ∈ triB P n a k ↔ t.1 = a ∧ a < t.2.1 ∧ t.2.1 < k ∧ t.2.1 < t.2.2 ∧ t.2.2 < n ∧ P a t.2.1 = true ∧ P t.2.1 t.2.2 = true ∧ P a t.2.2 = true := by
  intro k
  induction k with
  | zero => simp [triB]
  | succ k ih =>
    rw [triB, List.mem_append, ih]
    split
    · rename_i h
      rw [mem_triC]
      constructor
      · rintro (⟨h1, h2, h3, h4⟩ | ⟨h1, h2, h3, h4, h5, h6, h7⟩)
        · exact ⟨h1, h2, by omega, h4⟩
        · rw [h2]; exact ⟨h1, h, by omega, h3, h4, h5, h6, h7⟩
      · rintro ⟨h1, h2, h3, h4, h5, h6, h7, h8⟩
        by_cases e : t.2.1 = k
        · rw [e] at h4 h6 h7; exact .inr ⟨h1, e, h4, h5, h6, h7, h8⟩
        · exact .inl ⟨h1, h2, by omega, h4, h5, h6, h7, h8⟩
    · rename_i h
      simp only [List.not_mem_nil, or_false]
      constructor
      · rintro ⟨h1, h2, h3, h4⟩; exact ⟨h1, h2, by omega, h4⟩
      · rintro ⟨h1, h2, h3, h4⟩; exact ⟨h1, h2, by omega, h4⟩
theorem mem_triA {P : Nat → Nat → Bool} {n : Nat} {t : Tri} : ∀ {k : Nat}, t ∈ triA P n k ↔ t.1 < k ∧ t.1 < t.2.1 ∧ t.2.1 < n ∧ t.2.1 < t.2.2 ∧ t.2.2 < n ∧ P t.1 t.2.1 = true ∧ P t.2.1 t.2.2 = true ∧ P t.1 t.2.2 = true := by
  intro k
  induction k with
  | zero => simp [triA]
  | succ k ih =>
    rw [triA, List.mem_append, ih, mem_triB]
    constructor
    · rintro (⟨h1, h2⟩ | ⟨h1, h2, h3⟩)
      · exact ⟨by omega, h2⟩
      · rw [h1]; exact ⟨by omega, h2, h3⟩
    · rintro ⟨h1, h2, h3⟩
      by_cases e : t.1 = k
      · rw [e] at h2 h3; exact .inr ⟨e, h2, h3⟩
      · exact .inl ⟨by omega, h2, h3⟩
theorem nodup_triC (P : Nat → Nat → Bool) (a b : Nat) : ∀ k, (triC P a b k).Nodup := by
  intro k
  induction k with
  | zero => simp [triC]
  | succ k ih =>
    rw [triC, List.nodup_append]
    refine ⟨ih, by split <;> simp, fun x hx y hy => ?_⟩
    rw [mem_triC] at hx
    split at hy
    · simp only [List.mem_singleton] at hy
      subst hy
      intro e; subst e
      simp at hx
    · simp at hy
theorem nodup_triB (P : Nat → Nat → Bool) (n a : Nat) : ∀ k, (triB P n a k).Nodup := by
  intro k
  induction k with
  | zero => simp [triB]
  | succ k ih =>
    rw [triB, List.nodup_append]
    refine ⟨ih, by split; exact nodup_triC _ _ _ _; simp, fun x hx y hy => ?_⟩
    rw [mem_triB] at hx
    split at hy
    · rw [mem_triC] at hy
      intro e; subst e
      omega
    · simp at hy
theorem nodup_triA (P : Nat → Nat → Bool) (n : Nat) : ∀ k, (triA P n k).Nodup := by
  intro k
  induction k with
  | zero => simp [triA]
  | succ k ih =>
    rw [triA, List.nodup_append]
    refine ⟨ih, nodup_triB _ _ _ _, fun x hx y hy => ?_⟩
    rw [mem_triA] at hx
    rw [mem_triB] at hy
    intro e; subst e
    omega
/-- A triangle, by its corners. -/
theorem mem_tris {n : Nat} {L : List (Int × Int)} (hn : 3 ≤ n) (hl : ∀ q ∈ L, LineP n q) {t : Tri} : t ∈ tris n L ↔ t.1 < t.2.1 ∧ t.2.1 < t.2.2 ∧ t.2.2 < n ∧ Nr n L t.1 t.2.1 ∧ Nr n L t.2.1 t.2.2 ∧ Nr n L t.1 t.2.2 := by
  unfold tris
  rw [mem_triA]
  unfold nearB
  simp only [decide_eq_true_eq]
  constructor
  · rintro ⟨h1, h2, h3, h4, h5, h6, h7, h8⟩
    exact ⟨h2, h4, h5, (nr_iff (by omega) hl (by omega) (by omega) (by omega) (by omega)).1 h6, (nr_iff (by omega) hl (by omega) (by omega) (by omega) (by omega)).1 h7, (nr_iff (by omega) hl (by omega) (by omega) (by omega) (by omega)).1 h8⟩
  · rintro ⟨h2, h4, h5, h6, h7, h8⟩
    exact ⟨by omega, h2, by omega, h4, h5, (nr_iff (by omega) hl (by omega) (by omega) (by omega) (by omega)).2 h6, (nr_iff (by omega) hl (by omega) (by omega) (by omega) (by omega)).2 h7, (nr_iff (by omega) hl (by omega) (by omega) (by omega) (by omega)).2 h8⟩
theorem nodup_tris (n : Nat) (L : List (Int × Int)) : (tris n L).Nodup := nodup_triA _ _ _
def shN (x k : Nat) : Nat := if k < x then k else k - 1
def liN (x k : Nat) : Nat := if k < x then k else k + 1
theorem shN_cast {x k : Nat} (h : k ≠ x) : ((shN x k : Nat) : Int) = sh x k := by unfold shN sh; split <;> split <;> omega
theorem liN_cast (x k : Nat) : ((liN x k : Nat) : Int) = li x k := by unfold liN li; split <;> split <;> omega
theorem shN_liN (x k : Nat) : shN x (liN x k) = k := by unfold shN liN; (repeat' split) <;> omega
theorem liN_shN {x k : Nat} (h : k ≠ x) : liN x (shN x k) = k := by unfold shN liN; (repeat' split) <;> omega
theorem liN_ne (x k : Nat) : liN x k ≠ x := by unfold liN; split <;> omega
def liT (x : Nat) (t : Tri) : Tri := (liN x t.1, liN x t.2.1, liN x t.2.2)
/-- The triangle at corner x. -/
def xT (n x : Nat) : Tri := if x = 0 then (0, 1, n - 1) else if x = n - 1 then (0, n - 2, n - 1) else (x - 1, x, x + 1)
theorem ex_nat {n x : Nat} (hn : 4 ≤ n) (hx : x < n) : ∃ p q : Nat, ex n x = ((p : Int), (q : Int)) ∧
    ((x = 0 ∧ p = 1 ∧ q = n - 1 ∧ xT n x = (x, p, q)) ∨ (x = n - 1 ∧ p = 0 ∧ q = n - 2 ∧ xT n x = (p, q, x)) ∨ (0 < x ∧ x + 1 < n ∧ p = x - 1 ∧ q = x + 1 ∧ xT n x = (p, x, q))) := by
  unfold ex xT
  by_cases h0 : x = 0
  · subst h0
    exact ⟨1, n - 1, by rw [if_pos (by omega)]; simp only [Prod.mk.injEq]; omega, .inl ⟨rfl, rfl, rfl, by rw [if_pos rfl]⟩⟩
  · by_cases h1 : x = n - 1
    · exact ⟨0, n - 2, by rw [if_neg (by omega), if_pos (by omega)]; simp only [Prod.mk.injEq]; omega, .inr (.inl ⟨h1, rfl, rfl, by rw [if_neg h0, if_pos h1, ← h1]⟩)⟩
    · exact ⟨x - 1, x + 1, by rw [if_neg (by omega), if_neg (by omega)]; simp only [Prod.mk.injEq]; omega, .inr (.inr ⟨by omega, by omega, rfl, rfl, by rw [if_neg h0, if_neg h1]⟩)⟩
theorem cast_pred {n : Nat} (h : 1 ≤ n) : ((n - 1 : Nat) : Int) = (n : Int) - 1 := by omega
theorem tris_cut {n x : Nat} {L : List (Int × Int)} (hf : Full n L) (hb : Bare L x) (hn : 4 ≤ n) (hx : x < n) :
    (tris n L).Perm (xT n x :: (tris (n - 1) (cutB n x L)).map (liT x)) := by
  have hear := hf.ear (n := n) (x := x) (by omega) hb (by omega) (by omega)
  have hfull' : Full ((n - 1 : Nat) : Int) (cutB n x L) := by rw [cast_pred (by omega)]; exact hear.2
  have hmem : ∀ t, t ∈ tris (n - 1) (cutB n x L) ↔ t.1 < t.2.1 ∧ t.2.1 < t.2.2 ∧ t.2.2 < n - 1 ∧ Nr (n - 1) (cutB n x L) t.1 t.2.1 ∧ Nr (n - 1) (cutB n x L) t.2.1 t.2.2 ∧ Nr (n - 1) (cutB n x L) t.1 t.2.2 := fun t => by
    rw [mem_tris (by omega) hfull'.1.1, cast_pred (by omega)]
  have hx1 : ∀ k : Nat, k < n → k ≠ x → (Nr n L x k ↔ (k : Int) = (ex n x).1 ∨ (k : Int) = (ex n x).2) := fun k hk hkx => nr_x hb (by omega) (by omega) (by omega) (by omega) (by omega) (by omega)
  have hc1 : ∀ i k : Nat, i < n → k < n → i ≠ x → k ≠ x → i ≠ k → (Nr n L i k ↔ Nr (n - 1) (cutB n x L) (shN x i : Nat) (shN x k : Nat)) := fun i k hi hk hix hkx hik => by
    rw [shN_cast hix, shN_cast hkx]
    exact nr_cut hf hb (by omega) (by omega) (by omega) (by omega) (by omega) (by omega) (by omega) (by omega) (by omega) (by omega)
  have hexN : Nr n L (ex n x).1 (ex n x).2 := .inr (.inl hear.1)
  obtain ⟨p, q, epq, hpq⟩ := ex_nat hn hx
  rw [epq] at hx1 hexN
  simp only [] at hx1 hexN
  refine (List.perm_ext_iff_of_nodup (nodup_tris n L) ?_).2 fun t => ?_
  · rw [List.nodup_cons]
    refine ⟨fun hm => ?_, nodup_map_on (nodup_tris _ _) fun a _ b _ e => ?_⟩
    · obtain ⟨s, _, e⟩ := List.mem_map.1 hm
      unfold liT at e
      have l1 := liN_ne x s.1
      have l2 := liN_ne x s.2.1
      have l3 := liN_ne x s.2.2
      rcases hpq with ⟨c1, c2, c3, c4⟩ | ⟨c1, c2, c3, c4⟩ | ⟨c0, c1, c2, c3, c4⟩ <;> rw [c4] at e <;> simp only [Prod.mk.injEq] at e <;> omega
    · obtain ⟨a1, a2, a3⟩ := a
      obtain ⟨b1, b2, b3⟩ := b
      simp only [liT, Prod.mk.injEq] at e
      rw [← shN_liN x a1, ← shN_liN x a2, ← shN_liN x a3, e.1, e.2.1, e.2.2, shN_liN, shN_liN, shN_liN]
  · rw [mem_tris (by omega) hf.1.1, List.mem_cons, List.mem_map]
    obtain ⟨a, b, c⟩ := t
    simp only []
    constructor
    · rintro ⟨h1, h2, h3, h4, h5, h6⟩
      by_cases e1 : a = x
      · left
        rw [e1] at h4 h6
        have q1 := (hx1 b (by omega) (by omega)).1 h4
        have q2 := (hx1 c (by omega) (by omega)).1 h6
        rcases hpq with ⟨c1, c2, c3, c4⟩ | ⟨c1, c2, c3, c4⟩ | ⟨c0, c1, c2, c3, c4⟩ <;> rw [c4] <;> simp only [Prod.mk.injEq] <;> omega
      · by_cases e2 : b = x
        · left
          rw [e2] at h4 h5
          have q1 := (hx1 a (by omega) (by omega)).1 h4.symm
          have q2 := (hx1 c (by omega) (by omega)).1 h5
          rcases hpq with ⟨c1, c2, c3, c4⟩ | ⟨c1, c2, c3, c4⟩ | ⟨c0, c1, c2, c3, c4⟩ <;> rw [c4] <;> simp only [Prod.mk.injEq] <;> omega
        · by_cases e3 : c = x
          · left
            rw [e3] at h5 h6
            have q1 := (hx1 a (by omega) (by omega)).1 h6.symm
            have q2 := (hx1 b (by omega) (by omega)).1 h5.symm
            rcases hpq with ⟨c1, c2, c3, c4⟩ | ⟨c1, c2, c3, c4⟩ | ⟨c0, c1, c2, c3, c4⟩ <;> rw [c4] <;> simp only [Prod.mk.injEq] <;> omega
          · right
            refine ⟨(shN x a, shN x b, shN x c), ?_, by simp only [liT, liN_shN e1, liN_shN e2, liN_shN e3]⟩
            rw [hmem]
            simp only []
            refine ⟨?_, ?_, ?_, (hc1 a b (by omega) (by omega) e1 e2 (by omega)).1 h4, (hc1 b c (by omega) (by omega) e2 e3 (by omega)).1 h5, (hc1 a c (by omega) (by omega) e1 e3 (by omega)).1 h6⟩
            · unfold shN; split <;> split <;> omega
            · unfold shN; split <;> split <;> omega
            · unfold shN; split <;> omega
    · rintro (h | ⟨s, hs, e⟩)
      · have np : ∀ k : Nat, k < n → k ≠ x → (k = p ∨ k = q) → Nr n L x k := fun k hk hkx h => (hx1 k hk hkx).2 (by omega)
        rcases hpq with ⟨c1, c2, c3, c4⟩ | ⟨c1, c2, c3, c4⟩ | ⟨c0, c1, c2, c3, c4⟩ <;> rw [c4] at h <;> simp only [Prod.mk.injEq] at h <;> obtain ⟨rfl, rfl, rfl⟩ := h
        · exact ⟨by omega, by omega, by omega, np _ (by omega) (by omega) (by omega), hexN, np _ (by omega) (by omega) (by omega)⟩
        · exact ⟨by omega, by omega, by omega, hexN, (np _ (by omega) (by omega) (by omega)).symm, (np _ (by omega) (by omega) (by omega)).symm⟩
        · exact ⟨by omega, by omega, by omega, (np _ (by omega) (by omega) (by omega)).symm, np _ (by omega) (by omega) (by omega), hexN⟩
      · rw [hmem] at hs
        obtain ⟨h1, h2, h3, h4, h5, h6⟩ := hs
        simp only [liT, Prod.mk.injEq] at e
        obtain ⟨rfl, rfl, rfl⟩ := e
        have b1 : liN x s.1 < n := by unfold liN; split <;> omega
        have b2 : liN x s.2.1 < n := by unfold liN; split <;> omega
        have b3 : liN x s.2.2 < n := by unfold liN; split <;> omega
        have m1 : liN x s.1 < liN x s.2.1 := by unfold liN; split <;> split <;> omega
        have m2 : liN x s.2.1 < liN x s.2.2 := by unfold liN; split <;> split <;> omega
        refine ⟨m1, m2, b3, ?_, ?_, ?_⟩
        · rw [hc1 _ _ b1 b2 (liN_ne _ _) (liN_ne _ _) (by omega), shN_liN, shN_liN]; exact h4
        · rw [hc1 _ _ b2 b3 (liN_ne _ _) (liN_ne _ _) (by omega), shN_liN, shN_liN]; exact h5
        · rw [hc1 _ _ b1 b3 (liN_ne _ _) (liN_ne _ _) (by omega), shN_liN, shN_liN]; exact h6
theorem nth_bump {xs : List Int} {c k : Nat} (hc : c < xs.length) : nth (bump xs c) k = nth xs k + if k = c then 1 else 0 := by
  unfold bump
  rw [nth_set hc]
  split
  · rename_i h; rw [h]
  · omega
theorem nth_bump3 {xs : List Int} {t : Tri} {k : Nat} (h1 : t.1 < t.2.1) (h2 : t.2.1 < t.2.2) (h3 : t.2.2 < xs.length) : nth (bump3 xs t) k = nth xs k + if hasC t k then 1 else 0 := by
  unfold bump3
  rw [nth_bump (by simp only [bump_length]; omega), nth_bump (by simp only [bump_length]; omega), nth_bump (by omega)]
  unfold hasC
  (repeat' split) <;> omega
/-- How many of the triangles have corner c. -/
def cntT (T : List Tri) (c : Nat) : Nat := T.countP fun t => decide (hasC t c)
theorem nth_fold {n : Nat} : ∀ (T : List Tri) (xs : List Int), xs.length = n → (∀ t ∈ T, t.1 < t.2.1 ∧ t.2.1 < t.2.2 ∧ t.2.2 < n) → (T.foldl bump3 xs).length = n ∧ ∀ c, nth (T.foldl bump3 xs) c = nth xs c + cntT T c := by
  intro T
  induction T with
  | nil => intro xs hx _; exact ⟨hx, fun c => by simp [cntT]⟩
  | cons t T ih =>
    intro xs hx hT
    obtain ⟨h1, h2, h3⟩ := hT t (by simp)
    have hl : (bump3 xs t).length = n := by simp [bump3, bump_length, hx]
    obtain ⟨i1, i2⟩ := ih (bump3 xs t) hl fun s hs => hT s (List.mem_cons_of_mem _ hs)
    refine ⟨i1, fun c => ?_⟩
    rw [List.foldl_cons, i2, nth_bump3 h1 h2 (by omega)]
    unfold cntT
    rw [List.countP_cons]
    by_cases h : hasC t c <;> simp [h] <;> omega
theorem tris_asc {n : Nat} {L : List (Int × Int)} (hf : Full n L) : ∀ t ∈ tris n L, t.1 < t.2.1 ∧ t.2.1 < t.2.2 ∧ t.2.2 < n := fun t ht => by
  have h := (mem_tris (by have := hf.2.1; omega) hf.1.1).1 ht
  exact ⟨h.1, h.2.1, h.2.2.1⟩
theorem nth_round {n : Nat} {L : List (Int × Int)} (hf : Full n L) : (roundL n L).length = n ∧ ∀ c, nth (roundL n L) c = cntT (tris n L) c := by
  obtain ⟨h1, h2⟩ := nth_fold (tris n L) (List.replicate n 0) (by simp) (tris_asc hf)
  refine ⟨h1, fun c => ?_⟩
  unfold roundL roundT
  rw [h2, nth_replicate]
  omega
theorem full_three {L : List (Int × Int)} (h : Full (3 : Nat) L) : L = [] := List.eq_nil_of_length_eq_zero (by have := h.2.2; omega)
theorem tris_length : ∀ (m : Nat) {L : List (Int × Int)}, Full ((m + 3 : Nat) : Int) L → (tris (m + 3) L).length = m + 1 := by
  intro m
  induction m with
  | zero =>
    intro L h
    rw [full_three h]
    decide
  | succ m ih =>
    intro L h
    obtain ⟨x, h0, hx, hb⟩ := bare_one h.1 (by omega)
    obtain ⟨k, rfl⟩ : ∃ k : Nat, x = k := ⟨x.toNat, by omega⟩
    have hear := (h.ear (by omega) hb h0 hx).2
    rw [show ((m + 1 + 3 : Nat) : Int) - 1 = ((m + 3 : Nat) : Int) by omega] at hear
    have hp := (tris_cut h hb (by omega) (by omega)).length_eq
    rw [show m + 1 + 3 - 1 = m + 3 by omega, List.length_cons, List.length_map, ih hear] at hp
    exact hp
theorem hasC_li {x : Nat} {t : Tri} {c : Nat} (hc : c ≠ x) : hasC (liT x t) c ↔ hasC t (shN x c) := by
  have e : ∀ k, liN x k = c ↔ k = shN x c := fun k => ⟨fun h => by rw [← h, shN_liN], fun h => by rw [h, liN_shN hc]⟩
  unfold hasC liT
  simp only [e]
theorem hasC_x {x : Nat} {t : Tri} : ¬ hasC (liT x t) x := by
  have := liN_ne x
  unfold hasC liT
  simp [this]
/-- The round list when a corner is cut off. -/
theorem round_cut {n x : Nat} {L : List (Int × Int)} (hf : Full n L) (hb : Bare L x) (hn : 4 ≤ n) (hx : x < n) (c : Nat) :
    nth (roundL n L) c = if c = x then 1 else nth (roundL (n - 1) (cutB n x L)) (shN x c) + if (c : Int) = (ex n x).1 ∨ (c : Int) = (ex n x).2 then 1 else 0 := by
  have hear := (hf.ear (by omega) hb (by omega) (by omega)).2
  rw [← cast_pred (by omega)] at hear
  rw [(nth_round hf).2, (nth_round hear).2]
  have hp := tris_cut hf hb hn hx
  have hcount : cntT (tris n L) c = (if hasC (xT n x) c then 1 else 0) + cntT ((tris (n - 1) (cutB n x L)).map (liT x)) c := by
    unfold cntT
    rw [hp.countP_eq, List.countP_cons]
    by_cases h : hasC (xT n x) c <;> simp [h] <;> omega
  rw [hcount]
  obtain ⟨p, q, epq, hpq⟩ := ex_nat hn hx
  rw [epq]
  have hxt : hasC (xT n x) c ↔ c = x ∨ c = p ∨ c = q := by
    unfold hasC
    rcases hpq with ⟨c1, c2, c3, c4⟩ | ⟨c1, c2, c3, c4⟩ | ⟨c0, c1, c2, c3, c4⟩ <;> rw [c4] <;> simp only [] <;> omega
  by_cases hc : c = x
  · subst hc
    rw [if_pos rfl, if_pos (hxt.2 (.inl rfl))]
    have : cntT ((tris (n - 1) (cutB n c L)).map (liT c)) c = 0 := by
      unfold cntT
      rw [List.countP_eq_zero]
      intro t ht
      obtain ⟨s, _, rfl⟩ := List.mem_map.1 ht
      simp [hasC_x]
    omega
  · rw [if_neg hc]
    have : cntT ((tris (n - 1) (cutB n x L)).map (liT x)) c = cntT (tris (n - 1) (cutB n x L)) (shN x c) := by
      unfold cntT
      rw [List.countP_map]
      congr 1
      funext t
      simp [hasC_li hc]
    rw [this]
    simp only []
    by_cases hcpq : c = p ∨ c = q
    · rw [if_pos (hxt.2 (.inr hcpq)), if_pos (by omega)]; omega
    · rw [if_neg (fun h => by have := hxt.1 h; omega), if_neg (by omega)]; omega
/-- Every corner has a triangle, and there are not many. -/
theorem round_bds : ∀ (m : Nat) {L : List (Int × Int)}, Full ((m + 3 : Nat) : Int) L → ∀ c, c < m + 3 → 1 ≤ nth (roundL (m + 3) L) c ∧ nth (roundL (m + 3) L) c ≤ m + 1 := by
  intro m L h c hc
  refine ⟨?_, ?_⟩
  · revert L c
    induction m with
    | zero =>
      intro L h c hc
      rw [full_three h]
      have : c = 0 ∨ c = 1 ∨ c = 2 := by omega
      rcases this with rfl | rfl | rfl <;> decide
    | succ m ih =>
      intro L h c hc
      obtain ⟨x, h0, hx, hb⟩ := bare_one h.1 (by omega)
      obtain ⟨k, rfl⟩ : ∃ k : Nat, x = k := ⟨x.toNat, by omega⟩
      have hear := (h.ear (by omega) hb h0 hx).2
      rw [show ((m + 1 + 3 : Nat) : Int) - 1 = ((m + 3 : Nat) : Int) by omega] at hear
      rw [round_cut h hb (by omega) (by omega)]
      split
      · omega
      · have := ih hear (shN k c) (by unfold shN; split <;> omega)
        rw [show m + 1 + 3 - 1 = m + 3 by omega]
        split <;> omega
  · rw [(nth_round h).2]
    have := List.countP_le_length (p := fun t => decide (hasC t c)) (l := tris (m + 3) L)
    rw [tris_length m h] at this
    unfold cntT
    omega
/-- A corner with one triangle alone has no line. -/
theorem bare_of_one : ∀ (m : Nat) {L : List (Int × Int)}, Full ((m + 3 : Nat) : Int) L → ∀ c : Nat, c < m + 3 → nth (roundL (m + 3) L) c = 1 → Bare L c := by
  intro m
  induction m with
  | zero => intro L h c hc _ q hq; rw [full_three h] at hq; simp at hq
  | succ m ih =>
    intro L h c hc h1 q hq
    obtain ⟨x, h0, hx, hb⟩ := bare_one h.1 (by omega)
    obtain ⟨k, rfl⟩ : ∃ k : Nat, x = k := ⟨x.toNat, by omega⟩
    have hear := (h.ear (by omega) hb h0 hx).2
    rw [show ((m + 1 + 3 : Nat) : Int) - 1 = ((m + 3 : Nat) : Int) by omega] at hear
    by_cases hck : c = k
    · subst hck; exact hb q hq
    · rw [round_cut h hb (by omega) (by omega), if_neg hck, show m + 1 + 3 - 1 = m + 3 by omega] at h1
      have hs : shN k c < m + 3 := by unfold shN; split <;> omega
      have hlow := (round_bds m hear _ hs).1
      have hbare := ih hear _ hs (by split at h1 <;> omega)
      have hnot : ¬ ((c : Int) = (ex ((m + 1 + 3 : Nat) : Int) k).1 ∨ (c : Int) = (ex ((m + 1 + 3 : Nat) : Int) k).2) := by
        intro hh
        rw [if_pos hh] at h1
        omega
      by_cases he : q = ex ((m + 1 + 3 : Nat) : Int) k
      · subst he
        refine ⟨fun e => hnot (.inl e.symm), fun e => hnot (.inr e.symm)⟩
      · have hq' := hb q hq
        have hm : shP k q ∈ cutB ((m + 1 + 3 : Nat) : Int) k L := (mem_cutB hb).2 ⟨by rw [liP_shP hq'.1 hq'.2]; exact hq, by rw [liP_shP hq'.1 hq'.2]; exact he⟩
        have := hbare _ hm
        rw [shN_cast hck] at this
        unfold shP at this
        simp only [] at this
        refine ⟨fun e => this.1 (by rw [e]), fun e => this.2 (by rw [e])⟩
/-- The round list, cut, is the round list of the lines, cut. -/
theorem cutL_round {n x : Nat} {L : List (Int × Int)} (hf : Full n L) (hb : Bare L x) (hn : 4 ≤ n) (hx : x < n) : cutL (roundL n L) x = roundL (n - 1) (cutB n x L) := by
  have hear := (hf.ear (by omega) hb (by omega) (by omega)).2
  rw [← cast_pred (by omega)] at hear
  have hl := (nth_round hf).1
  have hl' := (nth_round hear).1
  have hcl := cutL_length (R := roundL n L) (c := x) (by omega)
  refine ext_nth (by omega) fun i hi => ?_
  have hrc := round_cut hf hb hn hx (liN x i)
  rw [if_neg (liN_ne x i), shN_liN] at hrc
  obtain ⟨p, q, epq, hpq⟩ := ex_nat hn hx
  rw [epq] at hrc
  simp only [] at hrc
  unfold cutL
  simp only [hl]
  have ea : (x + n - 1) % n = if x = 0 then n - 1 else x - 1 := by rw [mod_small (by omega)]; split <;> split <;> omega
  have eb : (x + 1) % n = if x = n - 1 then 0 else x + 1 := by rw [mod_small (by omega)]; split <;> split <;> omega
  have hab : (x + n - 1) % n ≠ (x + 1) % n := by rw [ea, eb]; split <;> split <;> omega
  have ha : (x + n - 1) % n < n := Nat.mod_lt _ (by omega)
  have hb' : (x + 1) % n < n := Nat.mod_lt _ (by omega)
  rw [nth_eraseIdx (by simp; omega)]
  have inner : nth ((roundL n L).set ((x + n - 1) % n) (nth (roundL n L) ((x + n - 1) % n) - 1)) ((x + 1) % n) = nth (roundL n L) ((x + 1) % n) := by
    rw [nth_set (by omega), if_neg (fun e => hab e.symm)]
  have key : ∀ j, nth (((roundL n L).set ((x + n - 1) % n) (nth (roundL n L) ((x + n - 1) % n) - 1)).set ((x + 1) % n) (nth ((roundL n L).set ((x + n - 1) % n) (nth (roundL n L) ((x + n - 1) % n) - 1)) ((x + 1) % n) - 1)) j = nth (roundL n L) j - if j = (x + n - 1) % n ∨ j = (x + 1) % n then 1 else 0 := by
    intro j
    rw [inner, nth_set (by simp; omega), nth_set (by omega)]
    by_cases j1 : j = (x + 1) % n
    · rw [if_pos j1, if_pos (.inr j1), j1]
    · rw [if_neg j1]
      by_cases j2 : j = (x + n - 1) % n
      · rw [if_pos j2, if_pos (.inl j2), j2]
      · rw [if_neg j2, if_neg (by omega)]; omega
  have hk := key (liN x i)
  have hset : (liN x i = (x + n - 1) % n ∨ liN x i = (x + 1) % n) ↔ (((liN x i : Nat) : Int) = (p : Int) ∨ ((liN x i : Nat) : Int) = (q : Int)) := by
    rw [ea, eb]
    rcases hpq with ⟨c1, c2, c3, c4⟩ | ⟨c1, c2, c3, c4⟩ | ⟨c0, c1, c2, c3, c4⟩ <;> (repeat' split) <;> omega
  have hfin : nth (roundL n L) (liN x i) - (if liN x i = (x + n - 1) % n ∨ liN x i = (x + 1) % n then 1 else 0) = nth (roundL (n - 1) (cutB n x L)) i := by
    rw [hrc]
    by_cases h : liN x i = (x + n - 1) % n ∨ liN x i = (x + 1) % n
    · rw [if_pos h, if_pos (hset.1 h)]; omega
    · rw [if_neg h, if_neg (fun h' => h (hset.2 h'))]; omega
  rw [hfin] at hk
  unfold liN at hk
  split
  · rename_i hlt; rw [if_pos hlt] at hk; exact hk
  · rename_i hlt; rw [if_neg hlt] at hk; exact hk
end
section
open Go Go.RowKit

/-- There is a corner without lines, that is not the first or the last one. -/
theorem bare_in {m : Nat} {L : List (Int × Int)} (h : Full ((m + 4 : Nat) : Int) L) : ∃ x : Nat, 0 < x ∧ x + 1 < m + 4 ∧ Bare L x := by
  have h0 : L ≠ [] := fun e => by subst e; have := h.2.2; simp at this; omega
  obtain ⟨q, hq, hm⟩ := short_one h0
  have l1 := h.1.1 q hq
  unfold LineP at l1
  refine ⟨(q.1 + 1).toNat, by omega, by omega, fun p hp => ?_⟩
  have l2 := h.1.1 p hp
  have c1 := h.1.2.1 p hp q hq
  have c2 := h.1.2.1 q hq p hp
  have := hm p hp
  unfold LineP at l2
  unfold CutP at c1 c2
  omega
def det (a b : Int × Int) : Int := a.1 * b.2 - a.2 * b.1
def addV (a b : Int × Int) : Int × Int := (a.1 + b.1, a.2 + b.2)
theorem det_self (a : Int × Int) : det a a = 0 := by unfold det; rw [Int.mul_comm]; omega
theorem det_addl (a b c : Int × Int) : det (addV a b) c = det a c + det b c := by unfold det addV; grind
theorem det_addr (a b c : Int × Int) : det c (addV a b) = det c a + det c b := by unfold det addV; grind
theorem det_swap (a b : Int × Int) : det a b = - det b a := by unfold det; grind
/-- Vectors at the corners: neighbours have the determinant 1, and the sum of both neighbours is a multiple of what lies between. -/
structure Vecs (n : Nat) (L : List (Int × Int)) (v : Nat → Int × Int) : Prop where
  next : ∀ i, i + 1 < n → det (v i) (v (i + 1)) = 1
  last : det (v 0) (v (n - 1)) = 1
  mid : ∀ i, 0 < i → i + 1 < n → (v (i - 1)).1 + (v (i + 1)).1 = nth (roundL n L) i * (v i).1 ∧ (v (i - 1)).2 + (v (i + 1)).2 = nth (roundL n L) i * (v i).2
  first : (v 1).1 - (v (n - 1)).1 = nth (roundL n L) 0 * (v 0).1 ∧ (v 1).2 - (v (n - 1)).2 = nth (roundL n L) 0 * (v 0).2
  final : (v (n - 2)).1 - (v 0).1 = nth (roundL n L) (n - 1) * (v (n - 1)).1 ∧ (v (n - 2)).2 - (v 0).2 = nth (roundL n L) (n - 1) * (v (n - 1)).2
  pos : ∀ i k, i < k → k < n → 1 ≤ det (v i) (v k)
  one : ∀ i k : Nat, i < k → k < n → (det (v i) (v k) = 1 ↔ Nr n L i k)
theorem vecs_three : Vecs 3 [] (fun i => if i = 0 then (1, 0) else if i = 1 then (1, 1) else (0, 1)) := by
  refine ⟨?_, by decide, ?_, by decide, by decide, ?_, ?_⟩
  · intro i hi
    have : i = 0 ∨ i = 1 := by omega
    rcases this with rfl | rfl <;> decide
  · intro i h1 h2
    obtain rfl : i = 1 := by omega
    decide
  · intro i k h1 h2
    have : (i = 0 ∧ k = 1) ∨ (i = 0 ∧ k = 2) ∨ (i = 1 ∧ k = 2) := by omega
    rcases this with ⟨rfl, rfl⟩ | ⟨rfl, rfl⟩ | ⟨rfl, rfl⟩ <;> decide
  · intro i k h1 h2
    have : (i = 0 ∧ k = 1) ∨ (i = 0 ∧ k = 2) ∨ (i = 1 ∧ k = 2) := by omega
    unfold Nr
    rcases this with ⟨rfl, rfl⟩ | ⟨rfl, rfl⟩ | ⟨rfl, rfl⟩ <;> simp [det]
theorem vecs_any : ∀ (m : Nat) {L : List (Int × Int)}, Full ((m + 3 : Nat) : Int) L → ∃ v, Vecs (m + 3) L v := by
  intro m
  induction m with
  | zero => intro L h; rw [full_three h]; exact ⟨_, vecs_three⟩
  | succ m ih =>
    intro L h
    rw [show m + 1 + 3 = m + 4 by omega] at h ⊢
    obtain ⟨x, hx0, hx1, hb⟩ := bare_in h
    have hear := (h.ear (by omega) hb (by omega) (by omega)).2
    rw [show ((m + 4 : Nat) : Int) - 1 = ((m + 3 : Nat) : Int) by omega] at hear
    obtain ⟨v, hv⟩ := ih hear
    have hr := fun c => round_cut h hb (by omega) (by omega) c
    rw [show m + 4 - 1 = m + 3 by omega] at hr
    have hex : ex ((m + 4 : Nat) : Int) x = ((x : Int) - 1, (x : Int) + 1) := by unfold ex; rw [if_neg (by omega), if_neg (by omega)]
    rw [hex] at hr
    simp only [] at hr
    generalize hrl : roundL (m + 4) L = r at hr
    generalize hrl' : roundL (m + 3) (cutB ((m + 4 : Nat) : Int) x L) = r' at hr
    have next := hv.next
    have last := hv.last
    have mid := hv.mid
    have first := hv.first
    have final := hv.final
    have pos := hv.pos
    rw [hrl'] at mid first final
    rw [show m + 3 - 1 = m + 2 by omega] at last first final
    rw [show m + 3 - 2 = m + 1 by omega] at final
    obtain ⟨u, hu⟩ : ∃ u : Nat → Int × Int, u = fun k => if k < x then v k else if k = x then addV (v (x - 1)) (v x) else v (k - 1) := ⟨_, rfl⟩
    have u1 : ∀ k, k < x → u k = v k := fun k hk => by rw [hu]; exact if_pos hk
    have u2 : u x = addV (v (x - 1)) (v x) := by rw [hu]; simp
    have u3 : ∀ k, x < k → u k = v (k - 1) := fun k hk => by rw [hu]; simp only []; rw [if_neg (by omega), if_neg (by omega)]
    have rx : nth r x = 1 := by rw [hr, if_pos rfl]
    have ra : nth r (x - 1) = nth r' (x - 1) + 1 := by rw [hr, if_neg (by omega), if_pos (by omega), show shN x (x - 1) = x - 1 by unfold shN; rw [if_pos (by omega)]]
    have rb : nth r (x + 1) = nth r' x + 1 := by rw [hr, if_neg (by omega), if_pos (by omega), show shN x (x + 1) = x by unfold shN; rw [if_neg (by omega)]; omega]
    have rl : ∀ c, c + 1 < x → nth r c = nth r' c := fun c hc => by rw [hr, if_neg (by omega), if_neg (by omega), show shN x c = c by unfold shN; rw [if_pos (by omega)], Int.add_zero]
    have rg : ∀ c, x + 1 < c → nth r c = nth r' (c - 1) := fun c hc => by rw [hr, if_neg (by omega), if_neg (by omega), show shN x c = c - 1 by unfold shN; rw [if_neg (by omega)], Int.add_zero]
    have s1 : ∀ k, k ≠ x → u k = v (shN x k) := fun k hk => by
      unfold shN
      split
      · exact u1 k (by omega)
      · exact u3 k (by omega)
    refine ⟨u, ?_, ?_, ?_, ?_, ?_, ?_, ?_⟩
    · intro i hi
      by_cases c1 : i + 1 < x
      · rw [u1 i (by omega), u1 _ c1]; exact next i (by omega)
      · by_cases c2 : i + 1 = x
        · subst c2
          rw [u1 i (by omega), u2, det_addr, Nat.add_sub_cancel, det_self, next i (by omega)]
          rfl
        · by_cases c3 : i = x
          · subst c3
            have := next (i - 1) (by omega)
            rw [show i - 1 + 1 = i by omega] at this
            rw [u2, u3 _ (by omega), det_addl, Nat.add_sub_cancel, det_self, this]
            rfl
          · have := next (i - 1) (by omega)
            rw [show i - 1 + 1 = i by omega] at this
            rw [u3 i (by omega), u3 _ (by omega), Nat.add_sub_cancel]
            exact this
    · rw [u1 0 hx0, u3 _ (by omega), show m + 4 - 1 - 1 = m + 2 by omega]
      exact last
    · intro i hi0 hi1
      rw [hrl]
      by_cases c1 : i + 1 < x
      · rw [u1 (i - 1) (by omega), u1 (i + 1) c1, u1 i (by omega), rl i c1]
        exact mid i hi0 (by omega)
      · by_cases c2 : i + 1 = x
        · have hm := mid i hi0 (by omega)
          subst c2
          rw [Nat.add_sub_cancel] at ra u2
          rw [u1 (i - 1) (by omega), u1 i (by omega), u2, ra]
          unfold addV
          simp only []
          constructor <;> grind
        · by_cases c3 : i = x
          · subst c3
            rw [u1 (i - 1) (by omega), u2, u3 (i + 1) (by omega), rx, Nat.add_sub_cancel]
            unfold addV
            simp only []
            constructor <;> omega
          · by_cases c4 : i = x + 1
            · subst c4
              have hm := mid x hx0 (by omega)
              rw [Nat.add_sub_cancel, u2, u3 (x + 1) (by omega), u3 (x + 1 + 1) (by omega), rb, Nat.add_sub_cancel, Nat.add_sub_cancel]
              unfold addV
              simp only []
              constructor <;> grind
            · have hm := mid (i - 1) (by omega) (by omega)
              rw [u3 (i - 1) (by omega), u3 (i + 1) (by omega), u3 i (by omega), rg i (by omega), Nat.add_sub_cancel]
              rw [show i - 1 + 1 = i by omega] at hm
              exact hm
    · rw [hrl, u1 0 hx0, u3 (m + 4 - 1) (by omega), show m + 4 - 1 - 1 = m + 2 by omega]
      by_cases c1 : 1 < x
      · rw [u1 1 c1, rl 0 (by omega)]; exact first
      · obtain rfl : x = 1 := by omega
        rw [Nat.sub_self] at ra u2
        rw [u2, ra]
        unfold addV
        simp only []
        constructor <;> grind
    · rw [hrl, u3 (m + 4 - 1) (by omega), u1 0 hx0, show m + 4 - 1 - 1 = m + 2 by omega]
      by_cases c1 : x = m + 2
      · subst c1
        rw [show m + 2 - 1 = m + 1 by omega] at u2
        rw [show m + 4 - 2 = m + 2 by omega, u2, show m + 4 - 1 = m + 2 + 1 by omega, rb]
        unfold addV
        simp only []
        constructor <;> grind
      · rw [u3 (m + 4 - 2) (by omega), rg _ (by omega), show m + 4 - 2 - 1 = m + 1 by omega, show m + 4 - 1 - 1 = m + 2 by omega]
        exact final
    · intro i k hik hk
      by_cases c1 : k < x
      · rw [u1 i (by omega), u1 k c1]; exact pos i k hik (by omega)
      · by_cases c2 : k = x
        · subst c2
          rw [u1 i hik, u2, det_addr]
          have p1 := pos i k hik (by omega)
          by_cases e : i = k - 1
          · rw [← e, det_self]; omega
          · have := pos i (k - 1) (by omega) (by omega); omega
        · rw [u3 k (by omega)]
          by_cases c3 : i < x
          · rw [u1 i c3]; exact pos i (k - 1) (by omega) (by omega)
          · by_cases c4 : i = x
            · subst c4
              rw [u2, det_addl]
              have p1 := pos (i - 1) (k - 1) (by omega) (by omega)
              by_cases e : i = k - 1
              · rw [← e, det_self]; rw [← e] at p1; omega
              · have := pos i (k - 1) (by omega) (by omega); omega
            · rw [u3 i (by omega)]; exact pos (i - 1) (k - 1) (by omega) (by omega)
    · intro i k hik hk
      have hnx : ∀ j : Nat, j < m + 4 → j ≠ x → (Nr ((m + 4 : Nat) : Int) L x j ↔ j + 1 = x ∨ j = x + 1) := fun j hj hjx => by
        rw [nr_x hb (by omega) (by omega) (by omega) (by omega) (by omega) (by omega), hex]
        simp only []
        omega
      by_cases c2 : k = x
      · subst c2
        have hN := hnx i (by omega) (by omega)
        rw [u1 i hik, u2, det_addr]
        have p1 := pos i k hik (by omega)
        rw [show Nr ((m + 4 : Nat) : Int) L i k ↔ Nr ((m + 4 : Nat) : Int) L k i from ⟨Nr.symm, Nr.symm⟩, hN]
        by_cases e : i = k - 1
        · have := next i (by omega)
          rw [show i + 1 = k by omega] at this
          rw [← e, det_self, this]
          omega
        · have := pos i (k - 1) (by omega) (by omega); omega
      · by_cases c4 : i = x
        · subst c4
          have hN := hnx k (by omega) (by omega)
          rw [u2, u3 k (by omega), det_addl, hN]
          have p1 := pos (i - 1) (k - 1) (by omega) (by omega)
          by_cases e : i = k - 1
          · have := next (i - 1) (by omega)
            rw [show i - 1 + 1 = i by omega] at this
            rw [← e, det_self, this]
            omega
          · have := pos i (k - 1) (by omega) (by omega); omega
        · rw [s1 i c4, s1 k c2, hv.one (shN x i) (shN x k) (by unfold shN; split <;> split <;> omega) (by unfold shN; split <;> omega), shN_cast c4, shN_cast c2, nr_cut h hb (by omega) (by omega) (by omega) (by omega) (by omega) (by omega) (by omega) (by omega) (by omega) (by omega), show ((m + 4 : Nat) : Int) - 1 = ((m + 3 : Nat) : Int) by omega]
/-- A pair of corners, by their labels. -/
def lab (C : List Int) (q : Int × Int) : Int × Int := (min (nth C q.1.toNat) (nth C q.2.toNat), max (nth C q.1.toNat) (nth C q.2.toNat))
theorem lab_mm (C : List Int) (a b : Nat) : lab C (min (a : Int) (b : Int), max (a : Int) (b : Int)) = (min (nth C a) (nth C b), max (nth C a) (nth C b)) := by
  unfold lab
  rcases Nat.le_total a b with h | h
  · have e1 : min (a : Int) (b : Int) = a := by omega
    have e2 : max (a : Int) (b : Int) = b := by omega
    rw [e1, e2]
    simp only [Int.toNat_natCast]
  · have e1 : min (a : Int) (b : Int) = b := by omega
    have e2 : max (a : Int) (b : Int) = a := by omega
    rw [e1, e2]
    simp only [Int.toNat_natCast]
    exact Prod.ext (by simp only []; omega) (by simp only []; omega)
theorem nth_upTo {n i : Nat} (h : i < n) : nth (upTo n) i = i := by simp [nth, upTo, h]
theorem nth_erase_upTo {n c a : Nat} (hc : c < n) (ha : a + 1 < n) : nth ((upTo n).eraseIdx c) a = (liN c a : Nat) := by
  rw [nth_eraseIdx (by rw [upTo_length]; exact hc)]
  unfold liN
  split
  · exact nth_upTo (by omega)
  · exact nth_upTo (by omega)
theorem nth_erase_li {C : List Int} {c a : Nat} (hc : c < C.length) : nth (C.eraseIdx c) a = nth C (liN c a) := by
  rw [nth_eraseIdx hc]
  unfold liN
  split <;> rfl
theorem liN_lt {n c a : Nat} (ha : a + 1 < n) : liN c a < n := by unfold liN; split <;> omega
/-- Both numbers are corners of a polygon of n corners. -/
def InN (n : Nat) (q : Int × Int) : Prop := 0 ≤ q.1 ∧ q.1 < n ∧ 0 ≤ q.2 ∧ q.2 < n
theorem lab_line {C : List Int} {c : Nat} (hc : c < C.length) : lab C (earLine (upTo C.length) c) = earLine C c := by
  unfold earLine
  rw [upTo_length]
  have ha : (c + C.length - 1) % C.length < C.length := Nat.mod_lt _ (by omega)
  have hb : (c + 1) % C.length < C.length := Nat.mod_lt _ (by omega)
  rw [nth_upTo ha, nth_upTo hb]
  exact lab_mm C _ _
theorem lab_lab {C : List Int} {c : Nat} (hc : c < C.length) {q : Int × Int} (hq : InN (C.length - 1) q) : lab C (lab ((upTo C.length).eraseIdx c) q) = lab (C.eraseIdx c) q := by
  obtain ⟨a, b⟩ := q
  unfold InN at hq
  simp only [] at hq
  obtain ⟨x, rfl⟩ : ∃ x : Nat, a = x := ⟨a.toNat, by omega⟩
  obtain ⟨y, rfl⟩ : ∃ y : Nat, b = y := ⟨b.toNat, by omega⟩
  have e : lab ((upTo C.length).eraseIdx c) ((x : Int), (y : Int)) = (min ((liN c x : Nat) : Int) ((liN c y : Nat) : Int), max ((liN c x : Nat) : Int) ((liN c y : Nat) : Int)) := by
    unfold lab
    simp only [Int.toNat_natCast]
    rw [nth_erase_upTo hc (by omega), nth_erase_upTo hc (by omega)]
  rw [e, lab_mm]
  unfold lab
  simp only [Int.toNat_natCast]
  rw [nth_erase_li hc, nth_erase_li hc]
theorem lab_in {C : List Int} {n : Nat} (hC : ∀ i, i < C.length → 0 ≤ nth C i ∧ nth C i < n) {q : Int × Int} (hq : InN C.length q) : InN n (lab C q) := by
  unfold InN at *
  have h1 := hC q.1.toNat (by omega)
  have h2 := hC q.2.toNat (by omega)
  unfold lab
  simp only []
  omega
theorem earLine_in {n c : Nat} (hc : c < n) : InN n (earLine (upTo n) c) := by
  have ha : (c + n - 1) % n < n := Nat.mod_lt _ (by omega)
  have hb : (c + 1) % n < n := Nat.mod_lt _ (by omega)
  unfold InN earLine
  rw [upTo_length, nth_upTo ha, nth_upTo hb]
  simp only []
  omega
/-- The run with all labels, out of the run with numbers. -/
def relab (C : List Int) (S : List (Int × Int)) (o : Option (List Int × List (Int × Int))) : Option (List Int × List (Int × Int)) := o.map fun p => (p.1, S ++ p.2.map (lab C))
theorem earOf_lt {R : List Int} {c : Nat} (h : earOf R = some c) : c < R.length ∧ EarP R c ∧ ∀ j, j < c → ¬ EarP R j := by
  unfold earOf at h
  rw [List.find?_range_eq_some] at h
  exact ⟨List.mem_range.1 h.2.1, of_decide_eq_true h.1, fun j hj => by simpa using h.2.2 j hj⟩
theorem run_in : ∀ (f : Nat) (R C : List Int) (S : List (Int × Int)) (n : Nat), R.length = C.length → (∀ i, i < C.length → 0 ≤ nth C i ∧ nth C i < n) → (∀ q ∈ S, InN n q) → ∀ R' S', runE f R C S = some (R', S') → ∀ q ∈ S', InN n q := by
  intro f
  induction f with
  | zero => intro R C S n _ _ _ R' S' h; cases h
  | succ f ih =>
    intro R C S n hl hC hS R' S' h
    rw [runE] at h
    split at h
    · cases h; exact hS
    · split at h
      · cases h
      · rename_i c hc
        have hcl := (earOf_lt hc).1
        refine ih (cutL R c) (C.eraseIdx c) _ n ?_ ?_ ?_ R' S' h
        · rw [cutL_length hcl, List.length_eraseIdx_of_lt (by omega), hl]
        · intro i hi
          rw [List.length_eraseIdx_of_lt (by omega)] at hi
          rw [nth_erase_li (by omega)]
          exact hC _ (liN_lt (by omega))
        · intro q hq
          rcases List.mem_append.1 hq with hq | hq
          · exact hS q hq
          · rw [List.mem_singleton] at hq
            subst hq
            have := lab_in (C := C) hC (earLine_in (n := C.length) (c := c) (by omega))
            rwa [lab_line (by omega)] at this
theorem runE_lab : ∀ (f : Nat) (R C : List Int) (S : List (Int × Int)), R.length = C.length → runE f R C S = relab C S (runE f R (upTo R.length) []) := by
  intro f
  induction f with
  | zero => intro R C S _; rfl
  | succ f ih =>
    intro R C S hl
    rw [runE, runE, upTo_length, ← hl]
    split
    · simp [relab]
    · cases hc : earOf R with
      | none => rfl
      | some c =>
        have hcl := (earOf_lt hc).1
        simp only []
        have e1 : (cutL R c).length = (C.eraseIdx c).length := by rw [cutL_length hcl, List.length_eraseIdx_of_lt (by omega), hl]
        have e2 : (cutL R c).length = ((upTo R.length).eraseIdx c).length := by rw [cutL_length hcl, List.length_eraseIdx_of_lt (by rw [upTo_length]; exact hcl), upTo_length]
        rw [ih _ _ (S ++ [earLine C c]) e1, ih _ _ ([] ++ [earLine (upTo R.length) c]) e2]
        cases hr : runE f (cutL R c) (upTo (cutL R c).length) [] with
        | none => rfl
        | some p =>
          obtain ⟨R', S0⟩ := p
          have hin := run_in f (cutL R c) (upTo (cutL R c).length) [] (cutL R c).length (by rw [upTo_length]) (fun i hi => by rw [upTo_length] at hi; rw [nth_upTo hi]; omega) (fun q hq => by simp at hq) R' S0 hr
          simp only [relab, Option.map_some, List.nil_append, List.map_cons, List.map_map, List.append_assoc, List.cons_append]
          rw [hl, lab_line (by omega)]
          congr 4
          apply List.map_congr_left
          intro q hq
          rw [cutL_length hcl, hl] at hin
          exact (lab_lab (by omega) (hin q hq)).symm
/-- One step of the run with numbers. -/
theorem run_step {f : Nat} {R : List Int} {c : Nat} (h4 : 4 ≤ R.length) (hc : earOf R = some c) :
    runE (f + 1) R (upTo R.length) [] = relab ((upTo R.length).eraseIdx c) [earLine (upTo R.length) c] (runE f (cutL R c) (upTo (cutL R c).length) []) := by
  have hcl := (earOf_lt hc).1
  rw [runE, if_neg (by rw [upTo_length]; omega), hc]
  simp only []
  rw [runE_lab f (cutL R c) _ _ (by rw [cutL_length hcl, List.length_eraseIdx_of_lt (by rw [upTo_length]; exact hcl), upTo_length])]
  rfl
theorem earLine_ex {n c : Nat} (hn : 4 ≤ n) (hc : c < n) : earLine (upTo n) c = ex n c := by
  have ha : (c + n - 1) % n < n := Nat.mod_lt _ (by omega)
  have hb : (c + 1) % n < n := Nat.mod_lt _ (by omega)
  unfold earLine ex
  rw [upTo_length, nth_upTo ha, nth_upTo hb]
  have ea : (c + n - 1) % n = if c = 0 then n - 1 else c - 1 := by rw [mod_small (by omega)]; split <;> split <;> omega
  have eb : (c + 1) % n = if c = n - 1 then 0 else c + 1 := by rw [mod_small (by omega)]; split <;> split <;> omega
  rw [ea, eb]
  by_cases h0 : c = 0
  · rw [if_pos h0, if_neg (by omega), if_pos (by omega)]
    exact Prod.ext (by simp only []; omega) (by simp only []; omega)
  · rw [if_neg h0, if_neg (show ¬ (c : Int) = 0 by omega)]
    by_cases h1 : c = n - 1
    · rw [if_pos h1, if_pos (by omega)]
      exact Prod.ext (by simp only []; omega) (by simp only []; omega)
    · rw [if_neg h1, if_neg (by omega)]
      exact Prod.ext (by simp only []; omega) (by simp only []; omega)
theorem lab_li {n c : Nat} (hc : c < n) {q : Int × Int} (hq : InN (n - 1) q) (hlt : q.1 < q.2) : lab ((upTo n).eraseIdx c) q = liP c q := by
  obtain ⟨a, b⟩ := q
  unfold InN at hq
  simp only [] at hq hlt
  obtain ⟨x, rfl⟩ : ∃ x : Nat, a = x := ⟨a.toNat, by omega⟩
  obtain ⟨y, rfl⟩ : ∃ y : Nat, b = y := ⟨b.toNat, by omega⟩
  unfold lab liP
  simp only [Int.toNat_natCast]
  rw [nth_erase_upTo hc (by omega), nth_erase_upTo hc (by omega), liN_cast, liN_cast]
  have := (li_lt (c : Int) x y).2 hlt
  exact Prod.ext (by simp only []; omega) (by simp only []; omega)
theorem full_in {n : Nat} {S : List (Int × Int)} (h : Full n S) {q : Int × Int} (hq : q ∈ S) : InN n q ∧ q.1 < q.2 := by
  have := h.1.1 q hq
  unfold LineP at this
  unfold InN
  omega
/-- What is cut is told by what is left. -/
theorem cutL_inj {A B : List Int} {c : Nat} (hl : A.length = B.length) (h3 : 3 ≤ A.length) (hc : c < A.length) (h1 : nth A c = nth B c) (h : cutL A c = cutL B c) : A = B := by
  have key : ∀ R : List Int, c < R.length → 3 ≤ R.length → ∀ i, i + 1 < R.length → nth (cutL R c) i = nth R (liN c i) - if liN c i = (c + R.length - 1) % R.length ∨ liN c i = (c + 1) % R.length then 1 else 0 := by
    intro R hc h3 i hi
    unfold cutL
    simp only []
    generalize hn : R.length = n at *
    have ea : (c + n - 1) % n = if c = 0 then n - 1 else c - 1 := by rw [mod_small (by omega)]; split <;> split <;> omega
    have eb : (c + 1) % n = if c = n - 1 then 0 else c + 1 := by rw [mod_small (by omega)]; split <;> split <;> omega
    have hab : (c + n - 1) % n ≠ (c + 1) % n := by rw [ea, eb]; split <;> split <;> omega
    have ha : (c + n - 1) % n < n := Nat.mod_lt _ (by omega)
    have hb' : (c + 1) % n < n := Nat.mod_lt _ (by omega)
    have inner : nth (R.set ((c + n - 1) % n) (nth R ((c + n - 1) % n) - 1)) ((c + 1) % n) = nth R ((c + 1) % n) := by
      rw [nth_set (by omega), if_neg (fun e => hab e.symm)]
    rw [nth_erase_li (by simp; omega), inner, nth_set (by simp; omega), nth_set (by omega)]
    by_cases j1 : liN c i = (c + 1) % n
    · rw [if_pos j1, if_pos (.inr j1), j1]
    · rw [if_neg j1]
      by_cases j2 : liN c i = (c + n - 1) % n
      · rw [if_pos j2, if_pos (.inl j2), j2]
      · rw [if_neg j2, if_neg (by omega)]; omega
  refine ext_nth hl fun j hj => ?_
  by_cases hjc : j = c
  · subst hjc; exact h1
  · have hs : shN c j + 1 < A.length := by unfold shN; split <;> omega
    have k1 := key A hc h3 (shN c j) hs
    have k2 := key B (by omega) (by omega) (shN c j) (by omega)
    rw [liN_shN hjc] at k1 k2
    rw [← hl] at k2
    rw [h, k2] at k1
    omega
theorem full_perm {n : Int} {L M : List (Int × Int)} (h : Full n L) (hp : M.Perm L) : Full n M :=
  ⟨⟨fun q hq => h.1.1 q (hp.mem_iff.1 hq), fun p hp' q hq => h.1.2.1 p (hp.mem_iff.1 hp') q (hp.mem_iff.1 hq), hp.nodup_iff.2 h.1.2.2⟩, h.2.1, by rw [hp.length_eq]; exact h.2.2⟩
theorem perm_cut {n : Int} {x : Int} {L S : List (Int × Int)} (hS : ∀ q ∈ S, liP x q ≠ ex n x) (hnd : S.Nodup) (hL : L.Nodup) (hp : L.Perm (ex n x :: S.map (liP x))) (hb : Bare L x) : (cutB n x L).Perm S := by
  have h1 : (cutB n x L).Nodup := by
    unfold cutB
    refine nodup_map_on (hL.filter _) fun a ha b hb' e => ?_
    have h1 := hb a (List.mem_filter.1 ha).1
    have h2 := hb b (List.mem_filter.1 hb').1
    rw [← liP_shP h1.1 h1.2, ← liP_shP h2.1 h2.2, e]
  refine (List.perm_ext_iff_of_nodup h1 hnd).2 fun q => ?_
  rw [mem_cutB hb, hp.mem_iff, List.mem_cons, List.mem_map]
  constructor
  · rintro ⟨h | ⟨p, hp', e⟩, hne⟩
    · exact absurd h hne
    · rw [← shP_liP x q, ← e, shP_liP]; exact hp'
  · intro hq
    exact ⟨.inr ⟨q, hq, rfl⟩, hS q hq⟩
theorem perm_ear {n x : Int} {L : List (Int × Int)} (hf : Lns n L) (hb : Bare L x) (he : ex n x ∈ L) (h0 : 0 ≤ x) (hx : x < n) : L.Perm (ex n x :: (cutB n x L).map (liP x)) := by
  have hc := cutB_lns hf hb h0 hx
  refine (List.perm_ext_iff_of_nodup hf.2.2 ?_).2 fun q => ?_
  · rw [List.nodup_cons]
    refine ⟨fun hm => ?_, nodup_map_on hc.2.2 fun a _ b _ e => by rw [← shP_liP x a, ← shP_liP x b, e]⟩
    obtain ⟨p, hp, e⟩ := List.mem_map.1 hm
    exact ((mem_cutB hb).1 hp).2 e
  · rw [List.mem_cons, List.mem_map]
    constructor
    · intro hq
      by_cases e : q = ex n x
      · exact .inl e
      · have := hb q hq
        exact .inr ⟨shP x q, (mem_cutB hb).2 ⟨by rw [liP_shP this.1 this.2]; exact hq, by rw [liP_shP this.1 this.2]; exact e⟩, liP_shP this.1 this.2⟩
    · rintro (rfl | ⟨p, hp, rfl⟩)
      · exact he
      · exact ((mem_cutB hb).1 hp).1
theorem maxL_one {xs : List Int} (h : Tame xs) (h0 : 1 ≤ xs.length) : maxL xs = 1 ↔ ∀ i, i < xs.length → nth xs i = 1 := by
  unfold maxL
  rw [maxTo_one (fun i hi => (h i (by omega)).1)]
  exact ⟨fun hh i hi => hh i (by omega), fun hh i hi => hh i (by omega)⟩
/-- What comes of a list is a brand with this list. -/
theorem run_brand : ∀ (m : Nat) (f : Nat) (R : List Int), R.length = m + 3 → Tame R → ∀ R' S, runE f R (upTo R.length) [] = some (R', S) → maxL R' = 1 → ∀ M : List (Int × Int), M.Perm S → Full ((m + 3 : Nat) : Int) M ∧ roundL (m + 3) M = R := by
  intro m
  induction m with
  | zero =>
    intro f R hl hT R' S h hmx M hM
    cases f with
    | zero => cases h
    | succ f =>
      rw [runE, if_pos (by rw [upTo_length]; omega)] at h
      simp only [Option.some.injEq, Prod.mk.injEq] at h
      obtain ⟨rfl, rfl⟩ := h
      have e : M = [] := List.Perm.eq_nil hM
      subst e
      have h1 := (maxL_one hT (by omega)).1 hmx
      refine ⟨⟨⟨by simp, by simp, List.nodup_nil⟩, by omega, by simp⟩, ?_⟩
      refine ext_nth (by rw [hl]; decide) fun i hi => ?_
      have hi3 : i < 3 := by have : (roundL (0 + 3) []).length = 3 := by decide
                             omega
      rw [h1 i (by omega)]
      have : i = 0 ∨ i = 1 ∨ i = 2 := by omega
      rcases this with rfl | rfl | rfl <;> decide
  | succ m ih =>
    intro f R hl hT R' S h hmx M hM
    cases f with
    | zero => cases h
    | succ f =>
      cases hc : earOf R with
      | none => rw [runE, if_neg (by rw [upTo_length]; omega), hc] at h; cases h
      | some c =>
        obtain ⟨hcl, hear, _⟩ := earOf_lt hc
        rw [run_step (by omega) hc] at h
        have hcut := cutL_length hcl
        rw [hl, show m + 1 + 3 - 1 = m + 3 by omega] at hcut
        have hT' := cutL_tame hT hcl hear (by omega)
        cases hr : runE f (cutL R c) (upTo (cutL R c).length) [] with
        | none => rw [hr] at h; cases h
        | some p =>
          obtain ⟨R1, S0⟩ := p
          rw [hr] at h
          simp only [relab, Option.map_some, Option.some.injEq, Prod.mk.injEq] at h
          obtain ⟨rfl, hS⟩ := h
          have hS0 := (ih f (cutL R c) hcut hT' R1 S0 hr hmx S0 (List.Perm.refl _)).1
          have hmap : S0.map (lab ((upTo R.length).eraseIdx c)) = S0.map (liP c) := by
            apply List.map_congr_left
            intro q hq
            have := full_in hS0 hq
            exact lab_li hcl (by rw [hl]; exact this.1) this.2
          rw [hmap, earLine_ex (by omega) hcl, hl] at hS
          have hp : M.Perm (ex ((m + 1 + 3 : Nat) : Int) c :: S0.map (liP c)) := by rw [← hS] at hM; exact hM
          have hS0' : Full (((m + 1 + 3 : Nat) : Int) - 1) S0 := by rw [show ((m + 1 + 3 : Nat) : Int) - 1 = ((m + 3 : Nat) : Int) by omega]; exact hS0
          obtain ⟨hfull, hbare⟩ := glue_full hS0' (by omega) (by omega) (by omega) hp
          have hpc := perm_cut (n := ((m + 1 + 3 : Nat) : Int)) (x := (c : Int)) (fun q hq => (liP_line (hS0'.1.1 q hq) (by omega) (by omega)).2) hS0.1.2.2 hfull.1.2.2 hp hbare
          have hround := (ih f (cutL R c) hcut hT' R1 S0 hr hmx _ hpc).2
          have hcr := cutL_round hfull hbare (by omega) (show c < m + 1 + 3 by omega)
          rw [show m + 1 + 3 - 1 = m + 3 by omega] at hcr
          refine ⟨hfull, ?_⟩
          have hlen := (nth_round hfull).1
          refine cutL_inj (by omega) (by omega) (c := c) (by omega) ?_ (by rw [hcr, hround])
          rw [round_cut hfull hbare (by omega) (by omega), if_pos rfl, hear.1]
/-- The list of a brand gives its lines back. -/
theorem run_back : ∀ (m : Nat) (f : Nat) {L : List (Int × Int)}, Full ((m + 3 : Nat) : Int) L → m < f → ∃ R' S, runE f (roundL (m + 3) L) (upTo (m + 3)) [] = some (R', S) ∧ S.Perm L ∧ maxL R' = 1 := by
  intro m
  induction m with
  | zero =>
    intro f L h hf
    rw [full_three h]
    obtain ⟨g, rfl⟩ : ∃ g, f = g + 1 := ⟨f - 1, by omega⟩
    exact ⟨_, [], by rw [runE, if_pos (by decide)], List.Perm.refl _, by decide⟩
  | succ m ih =>
    intro f L h hf
    obtain ⟨g, rfl⟩ : ∃ g, f = g + 1 := ⟨f - 1, by omega⟩
    have hlen := (nth_round h).1
    have hbd := round_bds (m + 1) h
    obtain ⟨x, h0, hx, hb⟩ := bare_one h.1 (by omega)
    obtain ⟨k, rfl⟩ : ∃ k : Nat, x = k := ⟨x.toNat, by omega⟩
    have hear : ∀ k : Nat, k < m + 1 + 3 → Bare L k → EarP (roundL (m + 1 + 3) L) k := by
      intro k hk hb
      have hf' := (h.ear (x := (k : Int)) (by omega) hb (by omega) (by omega)).2
      rw [show ((m + 1 + 3 : Nat) : Int) - 1 = ((m + 3 : Nat) : Int) by omega] at hf'
      have hbd' := round_bds m hf'
      have hrc := fun c => round_cut h hb (by omega) hk c
      rw [show m + 1 + 3 - 1 = m + 3 by omega] at hrc
      obtain ⟨p, q, epq, hpq⟩ := ex_nat (n := m + 1 + 3) (x := k) (by omega) hk
      rw [epq] at hrc
      simp only [] at hrc
      have two : ∀ j : Nat, j < m + 1 + 3 → j ≠ k → (j = p ∨ j = q) → 1 < nth (roundL (m + 1 + 3) L) j := by
        intro j hj hjk hjpq
        rw [hrc, if_neg hjk, if_pos (by omega)]
        have := (hbd' (shN k j) (by unfold shN; split <;> omega)).1
        omega
      have ea : (k + (m + 1 + 3) - 1) % (m + 1 + 3) = if k = 0 then m + 3 else k - 1 := by rw [mod_small (by omega)]; split <;> split <;> omega
      have eb : (k + 1) % (m + 1 + 3) = if k = m + 3 then 0 else k + 1 := by rw [mod_small (by omega)]; split <;> split <;> omega
      refine ⟨by rw [hrc, if_pos rfl], ?_, ?_⟩
      · rw [hlen]
        refine two _ (Nat.mod_lt _ (by omega)) (by rw [ea]; split <;> omega) ?_
        rw [ea]
        rcases hpq with ⟨c1, c2, c3, _⟩ | ⟨c1, c2, c3, _⟩ | ⟨c0, c1, c2, c3, _⟩ <;> split <;> omega
      · rw [hlen]
        refine two _ (Nat.mod_lt _ (by omega)) (by rw [eb]; split <;> omega) ?_
        rw [eb]
        rcases hpq with ⟨c1, c2, c3, _⟩ | ⟨c1, c2, c3, _⟩ | ⟨c0, c1, c2, c3, _⟩ <;> split <;> omega
    cases hc : earOf (roundL (m + 1 + 3) L) with
    | none =>
      have := List.find?_eq_none.1 hc k (List.mem_range.2 (by omega))
      exact absurd (hear k (by omega) hb) (by simpa using this)
    | some c =>
      obtain ⟨hcl, hec, _⟩ := earOf_lt hc
      rw [hlen] at hcl
      have hbc := bare_of_one (m + 1) h c hcl hec.1
      have hE := h.ear (x := (c : Int)) (by omega) hbc (by omega) (by omega)
      have hf' := hE.2
      rw [show ((m + 1 + 3 : Nat) : Int) - 1 = ((m + 3 : Nat) : Int) by omega] at hf'
      obtain ⟨R', S, hr, hS, hmx⟩ := ih g hf' (by omega)
      have hcr := cutL_round h hbc (by omega) hcl
      rw [show m + 1 + 3 - 1 = m + 3 by omega] at hcr
      have hstep := run_step (f := g) (R := roundL (m + 1 + 3) L) (by omega) hc
      rw [hlen, hcr, (nth_round hf').1, hr] at hstep
      simp only [relab, Option.map_some] at hstep
      have hS0 := full_perm hf' hS
      have hmap : S.map (lab ((upTo (m + 1 + 3)).eraseIdx c)) = S.map (liP c) := by
        apply List.map_congr_left
        intro q hq
        have := full_in hS0 hq
        exact lab_li hcl this.1 this.2
      rw [hmap, earLine_ex (by omega) hcl] at hstep
      refine ⟨R', _, hstep, ?_, hmx⟩
      exact ((hS.map _).cons _).trans (perm_ear h.1 hbc hE.1 (by omega) (by omega)).symm
end
section
open Go Go.RowKit

/-- One step of the numbers between corners: the last one and the one now. -/
def stp (s : Int × Int) (a : Int) : Int × Int := (s.2, a * s.2 - s.1)
def rn (r : List Int) (s : Int × Int) : Int × Int := r.foldl stp s
theorem rn_cons (a : Int) (r : List Int) (s : Int × Int) : rn (a :: r) s = rn r (stp s a) := rfl
theorem rn_append (a b : List Int) (s : Int × Int) : rn (a ++ b) s = rn b (rn a s) := by unfold rn; rw [List.foldl_append]
/-- A multiple. -/
def mulV (e : Int) (s : Int × Int) : Int × Int := (e * s.1, e * s.2)
theorem stp_mul (e : Int) (s : Int × Int) (a : Int) : stp (mulV e s) a = mulV e (stp s a) := by unfold stp mulV; simp only [Prod.mk.injEq]; constructor <;> grind
theorem rn_mul (e : Int) : ∀ (r : List Int) (s : Int × Int), rn r (mulV e s) = mulV e (rn r s) := by
  intro r
  induction r with
  | nil => intro s; rfl
  | cons a r ih => intro s; rw [rn_cons, rn_cons, stp_mul, ih]
theorem rn_onto : ∀ (r : List Int) (s : Int × Int), ∃ t, rn r t = s := by
  intro r
  induction r with
  | nil => intro s; exact ⟨s, rfl⟩
  | cons a r ih =>
    intro s
    obtain ⟨t, ht⟩ := ih s
    refine ⟨(a * t.1 - t.2, t.1), ?_⟩
    rw [rn_cons, ← ht]
    congr 1
    unfold stp
    simp only []
    exact Prod.ext rfl (by simp only []; omega)
/-- Once around multiplies by e. -/
def Eps (e : Int) (r : List Int) : Prop := ∀ s, rn r s = mulV e s
theorem Eps.rot {e : Int} {a b : List Int} (h : Eps e (a ++ b)) : Eps e (b ++ a) := by
  intro s
  obtain ⟨t, rfl⟩ := rn_onto a s
  have := h t
  rw [rn_append] at this
  rw [rn_append, this, rn_mul]
/-- What is left of 3 at each. -/
def left3 : List Int → Int
  | [] => 0
  | a :: r => 3 - a + left3 r
theorem left3_append (a b : List Int) : left3 (a ++ b) = left3 a + left3 b := by
  induction a with
  | nil => simp [left3]
  | cons x a ih => simp only [List.cons_append, left3, ih]; omega
theorem no_growth {e : Int} {r : List Int} (h : Eps e r) (h0 : r ≠ []) : ∃ a ∈ r, a < 2 := by
  refine Classical.byContradiction fun hn => ?_
  have hall : ∀ a ∈ r, 2 ≤ a := fun a ha => Classical.byContradiction fun h => hn ⟨a, ha, by omega⟩
  have grow : ∀ (r : List Int) (s : Int × Int), (∀ a ∈ r, 2 ≤ a) → 0 ≤ s.1 → s.1 < s.2 → s.1 ≤ (rn r s).1 ∧ 0 ≤ (rn r s).1 ∧ (r ≠ [] → s.1 < (rn r s).1) := by
    intro r
    induction r with
    | nil => intro s _ h1 _; exact ⟨Int.le_refl _, h1, fun h => absurd rfl h⟩
    | cons a r ih =>
      intro s ha h1 h2
      have ha2 := ha a (by simp)
      have hp : 2 * s.2 ≤ a * s.2 := Int.mul_le_mul_of_nonneg_right ha2 (by omega)
      have := ih (stp s a) (fun x hx => ha x (List.mem_cons_of_mem _ hx)) (by unfold stp; simp only []; omega) (by unfold stp; simp only []; omega)
      rw [rn_cons]
      unfold stp at this ⊢
      simp only [] at this ⊢
      exact ⟨by omega, by omega, fun _ => by omega⟩
  have g := grow r (0, 1) hall (by decide) (by decide)
  have he := h (0, 1)
  rw [he] at g
  unfold mulV at g
  simp only [Int.mul_zero] at g
  exact absurd (g.2.2 h0) (by omega)
theorem rn_ear (a b : Int) (s : Int × Int) : rn [a, 1, b] s = rn [a - 1, b - 1] s := by
  unfold rn stp; simp only [List.foldl_cons, List.foldl_nil, Prod.mk.injEq]; constructor <;> grind
theorem rn_two (a b : Int) (s : Int × Int) : rn [a, 1, 1, b] s = mulV (-1) (rn [a + b - 1] s) := by
  unfold rn stp mulV; simp only [List.foldl_cons, List.foldl_nil, Prod.mk.injEq]; constructor <;> grind
theorem eps_ear {e a b : Int} {r : List Int} : Eps e (a :: 1 :: b :: r) ↔ Eps e ((a - 1) :: (b - 1) :: r) := by
  have : ∀ s, rn (a :: 1 :: b :: r) s = rn ((a - 1) :: (b - 1) :: r) s := fun s => by
    rw [show a :: 1 :: b :: r = [a, 1, b] ++ r from rfl, show (a - 1) :: (b - 1) :: r = [a - 1, b - 1] ++ r from rfl, rn_append, rn_append, rn_ear]
  unfold Eps
  simp only [this]
theorem eps_two {e a b : Int} {r : List Int} (h : Eps e (a :: 1 :: 1 :: b :: r)) : Eps (-e) ((a + b - 1) :: r) := by
  intro s
  have := h s
  rw [show a :: 1 :: 1 :: b :: r = [a, 1, 1, b] ++ r from rfl, rn_append, rn_two, rn_mul, ← rn_append, List.singleton_append] at this
  generalize rn ((a + b - 1) :: r) s = t at *
  unfold mulV at *
  simp only [Prod.mk.injEq] at this
  exact Prod.ext (by simp only []; rw [Int.neg_mul]; omega) (by simp only []; rw [Int.neg_mul]; omega)
/-- Some rotation begins with a, 1, b. -/
theorem rot_one {r : List Int} (h : (1 : Int) ∈ r) (h3 : 3 ≤ r.length) : ∃ a b u v w, r = u ++ v ∧ v ++ u = a :: 1 :: b :: w := by
  obtain ⟨s, t, rfl⟩ := List.append_of_mem h
  cases hs : s.reverse with
  | nil =>
    have : s = [] := by simpa using hs
    subst this
    cases ht : t.reverse with
    | nil => have : t = [] := by simpa using ht
             subst this; simp at h3
    | cons z t' =>
      have et : t = t'.reverse ++ [z] := by rw [← List.reverse_reverse t, ht, List.reverse_cons]
      cases ht' : t'.reverse with
      | nil => rw [et, ht'] at h3; simp at h3
      | cons b w => exact ⟨z, b, 1 :: b :: w, [z], w, by rw [et, ht']; simp, by simp⟩
  | cons a s' =>
    have es : s = s'.reverse ++ [a] := by rw [← List.reverse_reverse s, hs, List.reverse_cons]
    cases t with
    | nil =>
      cases hs' : s'.reverse with
      | nil => rw [es, hs'] at h3; simp at h3
      | cons b w => exact ⟨a, b, b :: w, [a, 1], w, by rw [es, hs']; simp, by simp⟩
    | cons b t => exact ⟨a, b, s'.reverse, a :: 1 :: b :: t, t ++ s'.reverse, by rw [es]; simp, by simp⟩
/-- A positive list that comes back, or back to the opposite, leaves at least 6. -/
theorem left_six : ∀ (n : Nat) (r : List Int) (e : Int), r.length = n → r ≠ [] → (∀ a ∈ r, 1 ≤ a) → (e = 1 ∨ e = -1) → Eps e r → 6 ≤ left3 r := by
  intro n
  induction n using Nat.strongRecOn with
  | _ n ih =>
    intro r e hn h0 hp he h
    obtain ⟨x, hx, hx2⟩ := no_growth h h0
    have hx1 : x = 1 := by have := hp x hx; omega
    subst hx1
    match r, hn, h0, hp, h, hx with
    | [a], hn, h0, hp, h, hx =>
      have := h (1, 0)
      unfold rn stp mulV at this
      simp at this
    | [a, b], hn, h0, hp, h, hx =>
      have := h (1, 0)
      unfold rn stp mulV at this
      simp at this
      try (have := hp b (by simp); omega)
    | [a, b, c], hn, h0, hp, h, hx =>
      have q1 := h (1, 0)
      have q2 := h (0, 1)
      unfold rn stp mulV at q1 q2
      simp only [List.foldl_cons, List.foldl_nil, Prod.mk.injEq] at q1 q2
      have pa := hp a (by simp)
      have pb := hp b (by simp)
      have pc := hp c (by simp)
      have hb : b = 1 := by rcases he with rfl | rfl <;> omega
      subst hb
      simp only [left3]
      omega
    | a0 :: b0 :: c0 :: d0 :: r0, hn, h0, hp, h, hx =>
      obtain ⟨a, b, u, v, w, e1, e2⟩ := rot_one hx (by simp)
      have h' : Eps e (a :: 1 :: b :: w) := by rw [← e2]; rw [e1] at h; exact h.rot
      have hl : (a :: 1 :: b :: w).length = n := by rw [← e2, ← hn, e1]; simp; omega
      have hp' : ∀ y ∈ a :: 1 :: b :: w, 1 ≤ y := fun y hy => hp y (by rw [e1]; rw [← e2] at hy; simp at hy ⊢; exact hy.symm)
      have hleft : left3 (a0 :: b0 :: c0 :: d0 :: r0) = left3 (a :: 1 :: b :: w) := by rw [← e2, e1, left3_append, left3_append]; omega
      rw [hleft]
      have hn4 : 4 ≤ n := by rw [← hn]; simp
      have pa := hp' a (by simp)
      have pb := hp' b (by simp)
      have hw : w.length = n - 3 := by simp at hl; omega
      by_cases ha : a = 1
      · subst ha
        -- the last one in front
        cases hwr : w.reverse with
        | nil => have : w = [] := by simpa using hwr
                 subst this; simp at hw; omega
        | cons z w' =>
          have ew : w = w'.reverse ++ [z] := by rw [← List.reverse_reverse w, hwr, List.reverse_cons]
          have h2 : Eps e (z :: 1 :: 1 :: b :: w'.reverse) := by
            have : Eps e ((1 :: 1 :: b :: w'.reverse) ++ [z]) := by rw [ew] at h'; simpa using h'
            exact this.rot
          have h3 := eps_two h2
          have hz := hp' z (by rw [ew]; simp)
          have := ih (n - 3) (by omega) ((z + b - 1) :: w'.reverse) (-e) (by rw [ew] at hw; simp at hw ⊢; omega) (by simp) (fun y hy => by
            rcases List.mem_cons.1 hy with rfl | hy
            · omega
            · exact hp' y (by rw [ew]; simp at hy ⊢; right; right; left; exact hy)) (by omega) h3
          rw [ew]
          simp only [left3, left3_append] at this ⊢
          omega
      · by_cases hb : b = 1
        · subst hb
          cases w with
          | nil => simp at hw; omega
          | cons d w =>
            have h3 := eps_two h'
            have hd := hp' d (by simp)
            have := ih (n - 3) (by omega) ((a + d - 1) :: w) (-e) (by simp at hw ⊢; omega) (by simp) (fun y hy => by
              rcases List.mem_cons.1 hy with rfl | hy
              · omega
              · exact hp' y (by simp [hy])) (by omega) h3
            simp only [left3] at this ⊢
            omega
        · have h3 := eps_ear.1 h'
          have := ih (n - 1) (by omega) ((a - 1) :: (b - 1) :: w) e (by simp; omega) (by simp) (fun y hy => by
            rcases List.mem_cons.1 hy with rfl | hy
            · omega
            · rcases List.mem_cons.1 hy with rfl | hy
              · omega
              · exact hp' y (by simp [hy])) he h3
          simp only [left3] at this ⊢
          omega
/-- Where 6 are left, and there are more than three, no 1 is beside a 1. -/
theorem no_pair {a b : Int} {w : List Int} (h : Eps (-1) (a :: 1 :: b :: w)) (hp : ∀ y ∈ a :: 1 :: b :: w, 1 ≤ y) (hl : left3 (a :: 1 :: b :: w) = 6) (h4 : 1 ≤ w.length) : 1 < a ∧ 1 < b := by
  have pa := hp a (by simp)
  have pb := hp b (by simp)
  refine ⟨Classical.byContradiction fun hn => ?_, Classical.byContradiction fun hn => ?_⟩
  · obtain rfl : a = 1 := by omega
    cases hwr : w.reverse with
    | nil => have : w = [] := by simpa using hwr
             subst this; simp at h4
    | cons z w' =>
      have ew : w = w'.reverse ++ [z] := by rw [← List.reverse_reverse w, hwr, List.reverse_cons]
      have h2 : Eps (-1) (z :: 1 :: 1 :: b :: w'.reverse) := by
        have : Eps (-1) ((1 :: 1 :: b :: w'.reverse) ++ [z]) := by rw [ew] at h; simpa using h
        exact this.rot
      have hz := hp z (by rw [ew]; simp)
      have := left_six _ ((z + b - 1) :: w'.reverse) (- -1) rfl (by simp) (fun y hy => by
        rcases List.mem_cons.1 hy with rfl | hy
        · omega
        · exact hp y (by rw [ew]; simp at hy ⊢; right; right; left; exact hy)) (by omega) (eps_two h2)
      rw [ew] at hl
      simp only [left3, left3_append] at this hl
      omega
  · obtain rfl : b = 1 := by omega
    cases w with
    | nil => simp at h4
    | cons d w =>
      have hd := hp d (by simp)
      have := left_six _ ((a + d - 1) :: w) (- -1) rfl (by simp) (fun y hy => by
        rcases List.mem_cons.1 hy with rfl | hy
        · omega
        · exact hp y (by simp [hy])) (by omega) (eps_two h)
      simp only [left3] at this hl
      omega
theorem nth_app (a b : List Int) (i : Nat) : nth (a ++ b) i = if i < a.length then nth a i else nth b (i - a.length) := by
  unfold nth
  rw [List.getD_eq_getElem?_getD, List.getElem?_append]
  split <;> rw [List.getD_eq_getElem?_getD]
theorem nth_mem' {xs : List Int} {i : Nat} (h : i < xs.length) : nth xs i ∈ xs := by
  unfold nth; rw [List.getD_eq_getElem?_getD, List.getElem?_eq_getElem h]; exact List.getElem_mem h
theorem mem_nth' {xs : List Int} {x : Int} (h : x ∈ xs) : ∃ i, i < xs.length ∧ nth xs i = x := by
  obtain ⟨i, hi, rfl⟩ := List.mem_iff_getElem.1 h
  exact ⟨i, hi, by simp [nth, hi]⟩
theorem cut_mid (p q : List Int) (a x b : Int) : cutL (p ++ a :: x :: b :: q) (p.length + 1) = p ++ (a - 1) :: (b - 1) :: q := by
  have hl : (p ++ a :: x :: b :: q).length = p.length + q.length + 3 := by simp; omega
  have e1 : (p.length + 1 + (p.length + q.length + 3) - 1) % (p.length + q.length + 3) = p.length := by rw [mod_small (by omega), if_neg (by omega)]; omega
  have e2 : (p.length + 1 + 1) % (p.length + q.length + 3) = p.length + 2 := by rw [mod_small (by omega), if_pos (by omega)]
  unfold cutL
  simp only [hl, e1, e2]
  have n1 : nth (p ++ a :: x :: b :: q) p.length = a := by rw [nth_app, if_neg (by omega), Nat.sub_self]; rfl
  have s1 : (p ++ a :: x :: b :: q).set p.length (a - 1) = p ++ (a - 1) :: x :: b :: q := by simp
  rw [n1, s1]
  have n2 : nth (p ++ (a - 1) :: x :: b :: q) (p.length + 2) = b := by rw [nth_app, if_neg (by omega), show p.length + 2 - p.length = 2 by omega]; rfl
  have s2 : (p ++ (a - 1) :: x :: b :: q).set (p.length + 2) (b - 1) = p ++ (a - 1) :: x :: (b - 1) :: q := by simp
  rw [n2, s2, List.eraseIdx_append_of_length_le (by omega), show p.length + 1 - p.length = 1 by omega]
  rfl
theorem cut_first (q : List Int) (a x b : Int) : cutL (x :: b :: (q ++ [a])) 0 = (b - 1) :: (q ++ [a - 1]) := by
  have hl : (x :: b :: (q ++ [a])).length = q.length + 3 := by simp
  have e1 : (0 + (q.length + 3) - 1) % (q.length + 3) = q.length + 2 := by rw [mod_small (by omega), if_pos (by omega)]; omega
  have e2 : (0 + 1) % (q.length + 3) = 1 := by rw [mod_small (by omega), if_pos (by omega)]
  unfold cutL
  simp only [hl, e1, e2]
  have n1 : nth (x :: b :: (q ++ [a])) (q.length + 2) = a := by rw [show x :: b :: (q ++ [a]) = (x :: b :: q) ++ [a] by simp, nth_app, if_neg (by simp)]; simp [nth]
  have s1 : (x :: b :: (q ++ [a])).set (q.length + 2) (a - 1) = x :: b :: (q ++ [a - 1]) := by simp
  rw [n1, s1]
  rfl
theorem cut_last (q : List Int) (a x b : Int) : cutL (b :: (q ++ [a, x])) (q.length + 2) = (b - 1) :: (q ++ [a - 1]) := by
  have hl : (b :: (q ++ [a, x])).length = q.length + 3 := by simp
  have e1 : (q.length + 2 + (q.length + 3) - 1) % (q.length + 3) = q.length + 1 := by rw [mod_small (by omega), if_neg (by omega)]; omega
  have e2 : (q.length + 2 + 1) % (q.length + 3) = 0 := by rw [mod_small (by omega), if_neg (by omega)]; omega
  unfold cutL
  simp only [hl, e1, e2]
  have n1 : nth (b :: (q ++ [a, x])) (q.length + 1) = a := by rw [show b :: (q ++ [a, x]) = (b :: q) ++ [a, x] by simp, nth_app, if_neg (by simp)]; simp [nth]
  have s1 : (b :: (q ++ [a, x])).set (q.length + 1) (a - 1) = b :: (q ++ [a - 1, x]) := by simp
  rw [n1, s1]
  have n2 : nth (b :: (q ++ [a - 1, x])) 0 = b := rfl
  rw [n2, List.set_cons_zero, List.eraseIdx_cons_succ, List.eraseIdx_append_of_length_le (by omega), show q.length + 1 - q.length = 1 by omega]
  rfl
/-- A corner of a list, with both neighbours; the list when it is cut; up to rotation. -/
theorem cut_form {R : List Int} {c : Nat} (h3 : 3 ≤ R.length) (hc : c < R.length) : ∃ a x b w u v u' v', R = u ++ v ∧ v ++ u = a :: x :: b :: w ∧ cutL R c = u' ++ v' ∧ v' ++ u' = (a - 1) :: (b - 1) :: w ∧
    a = nth R ((c + R.length - 1) % R.length) ∧ x = nth R c ∧ b = nth R ((c + 1) % R.length) := by
  by_cases h0 : c = 0
  · subst h0
    match R, h3 with
    | x :: b :: t, h3 =>
      have ht : t ≠ [] := fun e => by subst e; simp at h3
      obtain ⟨q, a, rfl⟩ : ∃ q a, t = q ++ [a] := ⟨t.dropLast, t.getLast ht, (List.dropLast_concat_getLast ht).symm⟩
      have hl : (x :: b :: (q ++ [a])).length = q.length + 3 := by simp
      refine ⟨a, x, b, q, x :: b :: q, [a], (b - 1) :: q, [a - 1], by simp, by simp, by rw [cut_first]; simp, by simp, ?_, rfl, ?_⟩
      · rw [hl, mod_small (by omega), if_pos (by omega), show x :: b :: (q ++ [a]) = (x :: b :: q) ++ [a] by simp, nth_app, if_neg (by simp)]
        simp [nth]
      · rw [hl, mod_small (by omega), if_pos (by omega)]; rfl
  · by_cases h1 : c + 1 = R.length
    · match R, h3 with
      | b :: t, h3 =>
        have ht : t ≠ [] := fun e => by subst e; simp at h3
        obtain ⟨t', x, rfl⟩ : ∃ q a, t = q ++ [a] := ⟨t.dropLast, t.getLast ht, (List.dropLast_concat_getLast ht).symm⟩
        have ht' : t' ≠ [] := fun e => by subst e; simp at h3
        obtain ⟨q, a, rfl⟩ : ∃ q a, t' = q ++ [a] := ⟨t'.dropLast, t'.getLast ht', (List.dropLast_concat_getLast ht').symm⟩
        have hl : (b :: (q ++ [a] ++ [x])).length = q.length + 3 := by simp
        have hcq : c = q.length + 2 := by omega
        subst hcq
        have e : b :: (q ++ [a] ++ [x]) = b :: (q ++ [a, x]) := by simp
        refine ⟨a, x, b, q, b :: q, [a, x], (b - 1) :: q, [a - 1], by simp, by simp, by rw [e, cut_last]; simp, by simp, ?_, ?_, ?_⟩
        · rw [hl, mod_small (by omega), if_neg (by omega), show q.length + 2 + (q.length + 3) - 1 - (q.length + 3) = q.length + 1 by omega, show b :: (q ++ [a] ++ [x]) = (b :: q) ++ [a, x] by simp, nth_app, if_neg (by simp)]
          simp [nth]
        · rw [show b :: (q ++ [a] ++ [x]) = (b :: q ++ [a]) ++ [x] by simp, nth_app, if_neg (by simp)]
          simp [nth]
        · rw [hl, mod_small (by omega), if_neg (by omega), show q.length + 2 + 1 - (q.length + 3) = 0 by omega]; rfl
    · have hR : R = R.take (c - 1) ++ nth R (c - 1) :: nth R c :: nth R (c + 1) :: R.drop (c + 2) := by
        have hd : ∀ i, i < R.length → R.drop i = nth R i :: R.drop (i + 1) := fun i hi => by
          rw [List.drop_eq_getElem_cons hi]
          simp [nth, hi]
        rw [← show R.drop (c - 1) = nth R (c - 1) :: nth R c :: nth R (c + 1) :: R.drop (c + 2) from by
          rw [hd (c - 1) (by omega), show c - 1 + 1 = c by omega, hd c hc, hd (c + 1) (by omega)], List.take_append_drop]
      have hlen : (R.take (c - 1)).length + 1 = c := by rw [List.length_take]; omega
      generalize hp : R.take (c - 1) = p at *
      generalize hq : R.drop (c + 2) = q at *
      have em : (c + R.length - 1) % R.length = c - 1 := by rw [mod_small (by omega), if_neg (by omega)]; omega
      have eb : (c + 1) % R.length = c + 1 := by rw [mod_small (by omega), if_pos (by omega)]
      rw [em, eb]
      generalize nth R (c - 1) = a at *
      generalize nth R c = x at *
      generalize nth R (c + 1) = b at *
      subst hR
      refine ⟨a, x, b, q ++ p, p, a :: x :: b :: q, p, (a - 1) :: (b - 1) :: q, rfl, by simp, ?_, by simp, rfl, rfl, rfl⟩
      rw [← hlen]
      exact cut_mid p q a x b
/-- A list that comes back to the opposite, positive, with 6 left. -/
def Good (R : List Int) : Prop := Eps (-1) R ∧ left3 R = 6
theorem left3_pos : ∀ {R : List Int}, (∀ a ∈ R, 1 ≤ a) → left3 R ≤ 2 * R.length := by
  intro R
  induction R with
  | nil => intro _; simp [left3]
  | cons a R ih =>
    intro h
    have := ih fun x hx => h x (List.mem_cons_of_mem _ hx)
    have := h a (by simp)
    rw [left3, List.length_cons]
    omega
theorem Good.cut {R : List Int} {c : Nat} (h : Good R) (h3 : 3 ≤ R.length) (hc : c < R.length) (he : nth R c = 1) : Good (cutL R c) := by
  obtain ⟨a, x, b, w, u, v, u', v', e1, e2, e3, e4, ea, ex, eb⟩ := cut_form h3 hc
  rw [he] at ex
  subst ex
  have hE : Eps (-1) (a :: 1 :: b :: w) := by rw [← e2]; have := h.1; rw [e1] at this; exact this.rot
  have hE' := eps_ear.1 hE
  have hl : left3 (a :: 1 :: b :: w) = 6 := by rw [← e2]; have := h.2; rw [e1, left3_append] at this; rw [left3_append]; omega
  refine ⟨by rw [e3]; rw [← e4] at hE'; exact hE'.rot, ?_⟩
  rw [e3, left3_append]
  have : left3 (v' ++ u') = 6 := by rw [e4]; simp only [left3] at hl ⊢; omega
  rw [left3_append] at this
  omega
theorem good_run : ∀ (m : Nat) (f : Nat) (R : List Int), R.length = m + 3 → Tame R → Good R → m < f → ∃ R' S, runE f R (upTo R.length) [] = some (R', S) ∧ maxL R' = 1 := by
  intro m
  induction m with
  | zero =>
    intro f R hl hT hG hf
    obtain ⟨g, rfl⟩ : ∃ g, f = g + 1 := ⟨f - 1, by omega⟩
    refine ⟨R, [], by rw [runE, if_pos (by rw [upTo_length]; omega)], (maxL_one hT (by omega)).2 fun i hi => ?_⟩
    match R, hl with
    | [a, b, c], hl =>
      have h2 := hG.2
      simp only [left3] at h2
      have ha := hT 0 (by simp)
      have hb := hT 1 (by simp)
      have hc := hT 2 (by simp)
      change 1 ≤ a ∧ a ≤ 12 at ha
      change 1 ≤ b ∧ b ≤ 12 at hb
      change 1 ≤ c ∧ c ≤ 12 at hc
      have : i = 0 ∨ i = 1 ∨ i = 2 := by simp at hi; omega
      rcases this with rfl | rfl | rfl
      · show a = 1; omega
      · show b = 1; omega
      · show c = 1; omega
  | succ m ih =>
    intro f R hl hT hG hf
    obtain ⟨g, rfl⟩ : ∃ g, f = g + 1 := ⟨f - 1, by omega⟩
    have hpos : ∀ a ∈ R, 1 ≤ a := fun a ha => by
      obtain ⟨i, hi, rfl⟩ := mem_nth' ha
      exact (hT i hi).1
    have hne : R ≠ [] := fun e => by rw [e] at hl; simp at hl
    obtain ⟨x, hx, hx2⟩ := no_growth hG.1 hne
    have hx1 : x = 1 := by have := hpos x hx; omega
    subst hx1
    obtain ⟨j, hj, hj1⟩ := mem_nth' hx
    cases hc : earOf R with
    | none =>
      have hno := List.find?_eq_none.1 hc j (List.mem_range.2 hj)
      obtain ⟨a, y, b, w, u, v, u', v', e1, e2, e3, e4, ea, ey, eb⟩ := cut_form (c := j) (by omega) hj
      rw [hj1] at ey
      subst ey
      have hE : Eps (-1) (a :: 1 :: b :: w) := by rw [← e2]; have := hG.1; rw [e1] at this; exact this.rot
      have hl6 : left3 (a :: 1 :: b :: w) = 6 := by rw [← e2]; have := hG.2; rw [e1, left3_append] at this; rw [left3_append]; omega
      have hlen : (a :: 1 :: b :: w).length = m + 1 + 3 := by rw [← e2, ← hl, e1]; simp; omega
      have hp' : ∀ z ∈ a :: 1 :: b :: w, 1 ≤ z := fun z hz => hpos z (by rw [← e2] at hz; rw [e1]; simp at hz ⊢; exact hz.symm)
      have := no_pair hE hp' hl6 (by simp at hlen; omega)
      exact absurd (show EarP R j from ⟨hj1, by rw [← ea]; exact this.1, by rw [← eb]; exact this.2⟩) (by simpa using hno)
    | some c =>
      obtain ⟨hcl, hear, _⟩ := earOf_lt hc
      have hcut := cutL_length hcl
      rw [hl, show m + 1 + 3 - 1 = m + 3 by omega] at hcut
      obtain ⟨R', S, hr, hmx⟩ := ih g (cutL R c) hcut (cutL_tame hT hcl hear (by omega)) (hG.cut (by omega) hcl hear.1) (by omega)
      rw [run_step (by omega) hc, hr]
      exact ⟨R', _, rfl, hmx⟩
end
end Go.Proofs.Ytkbdclladfjmcaa
