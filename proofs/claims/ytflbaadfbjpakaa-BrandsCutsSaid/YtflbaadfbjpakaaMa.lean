/- Layer 2: the mathematics of brands (M1 M2 M3 M4). -/
import Derived.Test.YtflbaadfbjpakaaCi
namespace Go.Proofs.Ytflbaadfbjpakaa
open Go Go.RowKit

/-- Lines of a polygon of n corners, different, none of which crosses another one. -/
def Lns (n : Int) (L : List (Int × Int)) : Prop := (∀ q ∈ L, LineP n q) ∧ (∀ p ∈ L, ∀ q ∈ L, ¬ CutP p q) ∧ L.Nodup
/-- No line ends at corner x. -/
def Bare (L : List (Int × Int)) (x : Int) : Prop := ∀ q ∈ L, q.1 ≠ x ∧ q.2 ≠ x
theorem short_one : ∀ {L : List (Int × Int)}, L ≠ [] → ∃ q ∈ L, ∀ p ∈ L, q.2 - q.1 ≤ p.2 - p.1 := by
  intro L
  induction L with
  | nil => intro h; exact absurd rfl h
  | cons a L ih =>
    intro _
    by_cases h : L = []
    · subst h
      exact ⟨a, by simp, fun p hp => by simp at hp; subst hp; omega⟩
    · obtain ⟨q, hq, hm⟩ := ih h
      by_cases hc : q.2 - q.1 ≤ a.2 - a.1
      · refine ⟨q, List.mem_cons_of_mem _ hq, fun p hp => ?_⟩
        rcases List.mem_cons.1 hp with rfl | hp
        · exact hc
        · exact hm p hp
      · refine ⟨a, by simp, fun p hp => ?_⟩
        rcases List.mem_cons.1 hp with rfl | hp
        · omega
        · have := hm p hp; omega
theorem bare_one {n : Int} {L : List (Int × Int)} (h : Lns n L) (hn : 3 ≤ n) : ∃ x, 0 ≤ x ∧ x < n ∧ Bare L x := by
  by_cases h0 : L = []
  · subst h0
    exact ⟨0, by omega, by omega, fun q hq => by simp at hq⟩
  · obtain ⟨q, hq, hm⟩ := short_one h0
    have l1 := h.1 q hq
    unfold LineP at l1
    refine ⟨q.1 + 1, by omega, by omega, fun p hp => ?_⟩
    have l2 := h.1 p hp
    have c1 := h.2.1 p hp q hq
    have c2 := h.2.1 q hq p hp
    have := hm p hp
    unfold LineP at l2
    unfold CutP at c1 c2
    omega
/-- The line that cuts off corner x. -/
def ex (n x : Int) : Int × Int := if x = 0 then (1, n - 1) else if x = n - 1 then (0, n - 2) else (x - 1, x + 1)
/-- The corners' numbers without corner x; and back. -/
def sh (x k : Int) : Int := if k < x then k else k - 1
def li (x k : Int) : Int := if k < x then k else k + 1
def shP (x : Int) (q : Int × Int) : Int × Int := (sh x q.1, sh x q.2)
def liP (x : Int) (q : Int × Int) : Int × Int := (li x q.1, li x q.2)
theorem sh_li (x k : Int) : sh x (li x k) = k := by unfold sh li; (repeat' split) <;> omega
theorem li_sh {x k : Int} (h : k ≠ x) : li x (sh x k) = k := by unfold sh li; (repeat' split) <;> omega
theorem li_ne (x k : Int) : li x k ≠ x := by unfold li; split <;> omega
theorem sh_lt {x a b : Int} (_ha : a ≠ x) (hb : b ≠ x) : sh x a < sh x b ↔ a < b := by unfold sh; split <;> split <;> omega
theorem li_lt (x a b : Int) : li x a < li x b ↔ a < b := by unfold li; split <;> split <;> omega
theorem shP_liP (x : Int) (q : Int × Int) : shP x (liP x q) = q := by simp [shP, liP, sh_li]
theorem liP_shP {x : Int} {q : Int × Int} (h1 : q.1 ≠ x) (h2 : q.2 ≠ x) : liP x (shP x q) = q := by simp [shP, liP, li_sh h1, li_sh h2]
theorem shP_cut {x : Int} {p q : Int × Int} (h1 : p.1 ≠ x) (h2 : p.2 ≠ x) (h3 : q.1 ≠ x) (h4 : q.2 ≠ x) : CutP (shP x p) (shP x q) ↔ CutP p q := by
  unfold CutP shP; rw [sh_lt h1 h3, sh_lt h3 h2, sh_lt h2 h4]
theorem liP_cut (x : Int) (p q : Int × Int) : CutP (liP x p) (liP x q) ↔ CutP p q := by
  unfold CutP liP; simp only [li_lt]
theorem shP_line {n x : Int} {q : Int × Int} (h : LineP n q) (h1 : q.1 ≠ x) (h2 : q.2 ≠ x) (h0 : 0 ≤ x) (hx : x < n) (he : q ≠ ex n x) : LineP (n - 1) (shP x q) := by
  obtain ⟨a, b⟩ := q
  unfold ex at he
  unfold LineP shP sh at *
  simp only [] at *
  split at he <;> (try split at he) <;> simp only [ne_eq, Prod.mk.injEq] at he <;> (repeat' split) <;> omega
theorem liP_line {n x : Int} {q : Int × Int} (h : LineP (n - 1) q) (_h0 : 0 ≤ x) (_hx : x < n) : LineP n (liP x q) ∧ liP x q ≠ ex n x := by
  obtain ⟨a, b⟩ := q
  unfold ex
  unfold LineP liP li at *
  simp only [] at *
  refine ⟨?_, ?_⟩
  · (repeat' split) <;> omega
  · (repeat' split) <;> simp only [ne_eq, Prod.mk.injEq] <;> omega
theorem ex_line {n x : Int} (hn : 4 ≤ n) (h0 : 0 ≤ x) (hx : x < n) : LineP n (ex n x) ∧ (ex n x).1 ≠ x ∧ (ex n x).2 ≠ x := by
  unfold ex LineP
  (repeat' split) <;> simp only [] <;> omega
/-- The lines when corner x is cut off. -/
def cutB (n x : Int) (L : List (Int × Int)) : List (Int × Int) := (L.filter fun q => decide (q ≠ ex n x)).map (shP x)
theorem mem_cutB {n x : Int} {L : List (Int × Int)} (hb : Bare L x) {q : Int × Int} : q ∈ cutB n x L ↔ liP x q ∈ L ∧ liP x q ≠ ex n x := by
  unfold cutB
  rw [List.mem_map]
  constructor
  · rintro ⟨p, hp, rfl⟩
    rw [List.mem_filter] at hp
    have := hb p hp.1
    rw [liP_shP this.1 this.2]
    exact ⟨hp.1, by simpa using hp.2⟩
  · rintro ⟨h1, h2⟩
    exact ⟨liP x q, List.mem_filter.2 ⟨h1, by simpa using h2⟩, shP_liP x q⟩
theorem nodup_map_on {α β : Type} {f : α → β} : ∀ {L : List α}, L.Nodup → (∀ a ∈ L, ∀ b ∈ L, f a = f b → a = b) → (L.map f).Nodup := by
  intro L
  induction L with
  | nil => intro _ _; simp
  | cons a L ih =>
    intro h hi
    rw [List.map_cons, List.nodup_cons] at *
    refine ⟨fun hm => ?_, ih h.2 fun x hx y hy => hi x (List.mem_cons_of_mem _ hx) y (List.mem_cons_of_mem _ hy)⟩
    obtain ⟨b, hb, e⟩ := List.mem_map.1 hm
    have := hi b (List.mem_cons_of_mem _ hb) a (by simp) e
    subst this
    exact h.1 hb
theorem cutB_lns {n x : Int} {L : List (Int × Int)} (h : Lns n L) (hb : Bare L x) (h0 : 0 ≤ x) (hx : x < n) : Lns (n - 1) (cutB n x L) := by
  refine ⟨fun q hq => ?_, fun p hp q hq hc => ?_, ?_⟩
  · obtain ⟨h1, h2⟩ := (mem_cutB hb).1 hq
    have l := shP_line (h.1 _ h1) (li_ne x _) (li_ne x _) h0 hx h2
    rwa [shP_liP] at l
  · have hp1 := ((mem_cutB hb).1 hp).1
    have hq1 := ((mem_cutB hb).1 hq).1
    exact h.2.1 _ hp1 _ hq1 ((liP_cut x p q).2 hc)
  · unfold cutB
    refine nodup_map_on (h.2.2.filter _) fun a ha b hb' e => ?_
    have h1 := hb a (List.mem_filter.1 ha).1
    have h2 := hb b (List.mem_filter.1 hb').1
    rw [← liP_shP h1.1 h1.2, ← liP_shP h2.1 h2.2, e]
theorem cutB_length {n x : Int} {L : List (Int × Int)} (h : L.Nodup) : (cutB n x L).length = if ex n x ∈ L then L.length - 1 else L.length := by
  unfold cutB
  rw [List.length_map]
  have e : (L.filter fun q => decide (q ≠ ex n x)) = L.erase (ex n x) := by
    rw [h.erase_eq_filter]
    congr 1
    funext q
    rw [Bool.eq_iff_iff]
    simp
  rw [e, List.length_erase]
/-- There are no more than n - 3 lines. -/
theorem lns_most : ∀ (m : Nat) {L : List (Int × Int)}, Lns (m + 3) L → L.length ≤ m := by
  intro m
  induction m with
  | zero =>
    intro L h
    cases L with
    | nil => simp
    | cons q L =>
      have := h.1 q (by simp)
      unfold LineP at this
      omega
  | succ m ih =>
    intro L h
    obtain ⟨x, h0, hx, hb⟩ := bare_one h (by omega)
    have h1 := cutB_lns h hb h0 hx
    rw [show ((m + 1 : Nat) : Int) + 3 - 1 = m + 3 by omega] at h1
    have h2 := ih h1
    rw [cutB_length h.2.2] at h2
    split at h2 <;> omega
/-- As many as there can be. -/
def Full (n : Int) (L : List (Int × Int)) : Prop := Lns n L ∧ 3 ≤ n ∧ (L.length : Int) = n - 3
theorem Full.ear {n x : Int} {L : List (Int × Int)} (h : Full n L) (hn : 4 ≤ n) (hb : Bare L x) (h0 : 0 ≤ x) (hx : x < n) : ex n x ∈ L ∧ Full (n - 1) (cutB n x L) := by
  have h1 := cutB_lns h.1 hb h0 hx
  have hl := cutB_length (n := n) (x := x) h.1.2.2
  obtain ⟨m, hm⟩ : ∃ m : Nat, n - 1 = m + 3 := ⟨(n - 4).toNat, by omega⟩
  have h2 : (cutB n x L).length ≤ m := lns_most m (by rw [← hm]; exact h1)
  have h3 := h.2.2
  by_cases he : ex n x ∈ L
  · rw [if_pos he] at hl
    exact ⟨he, h1, by omega, by omega⟩
  · rw [if_neg he] at hl
    omega
/-- The lines when corner x is put in. -/
theorem glue_full {n x : Int} {M L : List (Int × Int)} (h : Full (n - 1) M) (hn : 4 ≤ n) (h0 : 0 ≤ x) (hx : x < n) (hp : L.Perm (ex n x :: M.map (liP x))) : Full n L ∧ Bare L x := by
  have hmem : ∀ q, q ∈ L ↔ q = ex n x ∨ ∃ p ∈ M, liP x p = q := fun q => by rw [hp.mem_iff, List.mem_cons, List.mem_map]
  have hnd : (ex n x :: M.map (liP x)).Nodup := by
    rw [List.nodup_cons]
    refine ⟨fun hm => ?_, nodup_map_on h.1.2.2 fun a _ b _ e => by rw [← shP_liP x a, ← shP_liP x b, e]⟩
    obtain ⟨p, hp', e⟩ := List.mem_map.1 hm
    exact (liP_line (h.1.1 p hp') h0 hx).2 e
  have hex := ex_line hn h0 hx
  refine ⟨⟨⟨fun q hq => ?_, fun p hp' q hq hc => ?_, hp.nodup_iff.2 hnd⟩, by omega, ?_⟩, fun q hq => ?_⟩
  · rcases (hmem q).1 hq with rfl | ⟨p, hp', rfl⟩
    · exact hex.1
    · exact (liP_line (h.1.1 p hp') h0 hx).1
  · rcases (hmem p).1 hp' with rfl | ⟨p, hp1, rfl⟩ <;> rcases (hmem q).1 hq with rfl | ⟨q, hq1, rfl⟩
    · unfold CutP at hc; omega
    · have l := h.1.1 q hq1
      unfold CutP liP li ex at hc
      unfold LineP at l
      (repeat' split at hc) <;> simp only [] at hc <;> (repeat' split at hc) <;> omega
    · have l := h.1.1 p hp1
      unfold CutP liP li ex at hc
      unfold LineP at l
      (repeat' split at hc) <;> simp only [] at hc <;> (repeat' split at hc) <;> omega
    · exact h.1.2.1 p hp1 q hq1 ((liP_cut x p q).1 hc)
  · have := hp.length_eq
    simp at this
    have := h.2.2
    omega
  · rcases (hmem q).1 hq with rfl | ⟨p, hp1, rfl⟩
    · exact hex.2
    · exact ⟨li_ne x _, li_ne x _⟩
/-- Two corners are neighbours, or joined: as omega reads it. -/
def Nr (n : Int) (L : List (Int × Int)) (i k : Int) : Prop := (k = i + 1 ∨ i = k + 1 ∨ (i = 0 ∧ k = n - 1) ∨ (k = 0 ∧ i = n - 1)) ∨ (i, k) ∈ L ∨ (k, i) ∈ L
theorem nbr_iff {n i k : Int} (_hn : 3 ≤ n) (i0 : 0 ≤ i) (i1 : i < n) (k0 : 0 ≤ k) (k1 : k < n) : Nbr n i k ↔ (k = i + 1 ∨ i = k + 1 ∨ (i = 0 ∧ k = n - 1) ∨ (k = 0 ∧ i = n - 1)) := by
  have e : ∀ a : Int, 0 ≤ a → a < n → (a + 1) % n = if a = n - 1 then 0 else a + 1 := by
    intro a h0 h1
    split
    · rename_i h; rw [h, Int.sub_add_cancel, Int.emod_self]
    · exact Int.emod_eq_of_lt (by omega) (by omega)
  unfold Nbr
  rw [e i i0 i1, e k k0 k1]
  split <;> split <;> omega
theorem nr_iff {n i k : Int} {L : List (Int × Int)} (hn : 3 ≤ n) (hl : ∀ q ∈ L, LineP n q) (i0 : 0 ≤ i) (i1 : i < n) (k0 : 0 ≤ k) (k1 : k < n) : NearP n L i k ↔ Nr n L i k := by
  unfold NearP Nr
  rw [nbr_iff hn i0 i1 k0 k1]
  by_cases h : i ≤ k
  · rw [Int.min_eq_left h, Int.max_eq_right h]
    have h2 : (k, i) ∈ L → (i, k) ∈ L := fun hm => by have := hl _ hm; unfold LineP at this; simp only [] at this; omega
    exact ⟨fun h => h.elim .inl fun h => .inr (.inl h), fun h => h.elim .inl fun h => .inr (h.elim id h2)⟩
  · rw [Int.min_eq_right (by omega), Int.max_eq_left (by omega)]
    have h2 : (i, k) ∈ L → (k, i) ∈ L := fun hm => by have := hl _ hm; unfold LineP at this; simp only [] at this; omega
    exact ⟨fun h => h.elim .inl fun h => .inr (.inr h), fun h => h.elim .inl fun h => .inr (h.elim h2 id)⟩
theorem Nr.symm {n i k : Int} {L : List (Int × Int)} (h : Nr n L i k) : Nr n L k i := by
  unfold Nr at *
  rcases h with h | h | h
  · left; omega
  · exact .inr (.inr h)
  · exact .inr (.inl h)
theorem nr_x {n x k : Int} {L : List (Int × Int)} (hb : Bare L x) (hn : 4 ≤ n) (h0 : 0 ≤ x) (hx : x < n) (k0 : 0 ≤ k) (k1 : k < n) (_hk : k ≠ x) : Nr n L x k ↔ k = (ex n x).1 ∨ k = (ex n x).2 := by
  have h1 : (x, k) ∉ L := fun h => (hb _ h).1 rfl
  have h2 : (k, x) ∉ L := fun h => (hb _ h).2 rfl
  unfold Nr ex
  simp only [h1, h2, or_false]
  (repeat' split) <;> simp only [] <;> omega
theorem nr_cut {n x i k : Int} {L : List (Int × Int)} (hf : Full n L) (hb : Bare L x) (hn : 4 ≤ n) (h0 : 0 ≤ x) (hx : x < n) (i0 : 0 ≤ i) (i1 : i < n) (k0 : 0 ≤ k) (k1 : k < n) (hi : i ≠ x) (hk : k ≠ x) (hik : i ≠ k) :
    Nr n L i k ↔ Nr (n - 1) (cutB n x L) (sh x i) (sh x k) := by
  have he := (hf.ear hn hb h0 hx).1
  have m1 : (sh x i, sh x k) ∈ cutB n x L ↔ (i, k) ∈ L ∧ (i, k) ≠ ex n x := by
    rw [mem_cutB hb]; simp only [liP, li_sh hi, li_sh hk]
  have m2 : (sh x k, sh x i) ∈ cutB n x L ↔ (k, i) ∈ L ∧ (k, i) ≠ ex n x := by
    rw [mem_cutB hb]; simp only [liP, li_sh hi, li_sh hk]
  have s : (sh x k = sh x i + 1 ∨ sh x i = sh x k + 1 ∨ (sh x i = 0 ∧ sh x k = n - 1 - 1) ∨ (sh x k = 0 ∧ sh x i = n - 1 - 1)) ↔ (k = i + 1 ∨ i = k + 1 ∨ (i = 0 ∧ k = n - 1) ∨ (k = 0 ∧ i = n - 1)) ∨ (i, k) = ex n x ∨ (k, i) = ex n x := by
    unfold sh ex
    (repeat' split) <;> simp only [Prod.mk.injEq] <;> omega
  unfold Nr
  rw [m1, m2, s]
  constructor
  · rintro (h | h | h)
    · exact .inl (.inl h)
    · by_cases e : (i, k) = ex n x
      · exact .inl (.inr (.inl e))
      · exact .inr (.inl ⟨h, e⟩)
    · by_cases e : (k, i) = ex n x
      · exact .inl (.inr (.inr e))
      · exact .inr (.inr ⟨h, e⟩)
  · rintro ((h | h | h) | h | h)
    · exact .inl h
    · exact .inr (.inl (h ▸ he))
    · exact .inr (.inr (h ▸ he))
    · exact .inr (.inl h.1)
    · exact .inr (.inr h.1)
/-! ### The list of triangles -/
theorem mem_triC {P : Nat → Nat → Bool} {a b : Nat} {t : Tri} : ∀ {k : Nat}, t ∈ triC P a b k ↔ t.1 = a ∧ t.2.1 = b ∧ b < t.2.2 ∧ t.2.2 < k ∧ P a b = true ∧ P b t.2.2 = true ∧ P a t.2.2 = true := by
  intro k
  induction k with
  | zero => simp [triC]
  | succ k ih =>
    rw [triC, List.mem_append, ih]
    obtain ⟨x, y, z⟩ := t
    simp only []
    split
    · rename_i h
      simp only [List.mem_singleton, Prod.mk.injEq]
      constructor
      · rintro (⟨h1, h2, h3, h4, h5⟩ | ⟨rfl, rfl, rfl⟩)
        · exact ⟨h1, h2, h3, by omega, h5⟩
        · exact ⟨rfl, rfl, h.1, by omega, h.2⟩
      · rintro ⟨h1, h2, h3, h4, h5⟩
        by_cases e : z = k
        · exact .inr ⟨h1, h2, e⟩
        · exact .inl ⟨h1, h2, h3, by omega, h5⟩
    · rename_i h
      simp only [List.not_mem_nil, or_false]
      constructor
      · rintro ⟨h1, h2, h3, h4, h5⟩; exact ⟨h1, h2, h3, by omega, h5⟩
      · rintro ⟨h1, h2, h3, h4, h5⟩
        by_cases e : z = k
        · subst e; exact absurd ⟨h3, h5⟩ h
        · exact ⟨h1, h2, h3, by omega, h5⟩
theorem mem_triB {P : Nat → Nat → Bool} {n a : Nat} {t : Tri} : ∀ {k : Nat}, t ∈ triB P n a k ↔ t.1 = a ∧ a < t.2.1 ∧ t.2.1 < k ∧ t.2.1 < t.2.2 ∧ t.2.2 < n ∧ P a t.2.1 = true ∧ P t.2.1 t.2.2 = true ∧ P a t.2.2 = true := by
  intro k
  induction k with
  | zero => simp [triB]
  | succ k ih =>
    rw [triB, List.mem_append, ih]
    split
    · rename_i h
      rw [mem_triC]
      constructor
      · rintro (⟨h1, h2, h3, h4⟩ | ⟨h1, h2, h3, h4, h5, h6, h7⟩)
        · exact ⟨h1, h2, by omega, h4⟩
        · rw [h2]; exact ⟨h1, h, by omega, h3, h4, h5, h6, h7⟩
      · rintro ⟨h1, h2, h3, h4, h5, h6, h7, h8⟩
        by_cases e : t.2.1 = k
        · rw [e] at h4 h6 h7; exact .inr ⟨h1, e, h4, h5, h6, h7, h8⟩
        · exact .inl ⟨h1, h2, by omega, h4, h5, h6, h7, h8⟩
    · rename_i h
      simp only [List.not_mem_nil, or_false]
      constructor
      · rintro ⟨h1, h2, h3, h4⟩; exact ⟨h1, h2, by omega, h4⟩
      · rintro ⟨h1, h2, h3, h4⟩; exact ⟨h1, h2, by omega, h4⟩
theorem mem_triA {P : Nat → Nat → Bool} {n : Nat} {t : Tri} : ∀ {k : Nat}, t ∈ triA P n k ↔ t.1 < k ∧ t.1 < t.2.1 ∧ t.2.1 < n ∧ t.2.1 < t.2.2 ∧ t.2.2 < n ∧ P t.1 t.2.1 = true ∧ P t.2.1 t.2.2 = true ∧ P t.1 t.2.2 = true := by
  intro k
  induction k with
  | zero => simp [triA]
  | succ k ih =>
    rw [triA, List.mem_append, ih, mem_triB]
    constructor
    · rintro (⟨h1, h2⟩ | ⟨h1, h2, h3⟩)
      · exact ⟨by omega, h2⟩
      · rw [h1]; exact ⟨by omega, h2, h3⟩
    · rintro ⟨h1, h2, h3⟩
      by_cases e : t.1 = k
      · rw [e] at h2 h3; exact .inr ⟨e, h2, h3⟩
      · exact .inl ⟨by omega, h2, h3⟩
theorem nodup_triC (P : Nat → Nat → Bool) (a b : Nat) : ∀ k, (triC P a b k).Nodup := by
  intro k
  induction k with
  | zero => simp [triC]
  | succ k ih =>
    rw [triC, List.nodup_append]
    refine ⟨ih, by split <;> simp, fun x hx y hy => ?_⟩
    rw [mem_triC] at hx
    split at hy
    · simp only [List.mem_singleton] at hy
      subst hy
      intro e; subst e
      simp at hx
    · simp at hy
theorem nodup_triB (P : Nat → Nat → Bool) (n a : Nat) : ∀ k, (triB P n a k).Nodup := by
  intro k
  induction k with
  | zero => simp [triB]
  | succ k ih =>
    rw [triB, List.nodup_append]
    refine ⟨ih, by split; exact nodup_triC _ _ _ _; simp, fun x hx y hy => ?_⟩
    rw [mem_triB] at hx
    split at hy
    · rw [mem_triC] at hy
      intro e; subst e
      omega
    · simp at hy
theorem nodup_triA (P : Nat → Nat → Bool) (n : Nat) : ∀ k, (triA P n k).Nodup := by
  intro k
  induction k with
  | zero => simp [triA]
  | succ k ih =>
    rw [triA, List.nodup_append]
    refine ⟨ih, nodup_triB _ _ _ _, fun x hx y hy => ?_⟩
    rw [mem_triA] at hx
    rw [mem_triB] at hy
    intro e; subst e
    omega
/-- A triangle, by its corners. -/
theorem mem_tris {n : Nat} {L : List (Int × Int)} (hn : 3 ≤ n) (hl : ∀ q ∈ L, LineP n q) {t : Tri} : t ∈ tris n L ↔ t.1 < t.2.1 ∧ t.2.1 < t.2.2 ∧ t.2.2 < n ∧ Nr n L t.1 t.2.1 ∧ Nr n L t.2.1 t.2.2 ∧ Nr n L t.1 t.2.2 := by
  unfold tris
  rw [mem_triA]
  unfold nearB
  simp only [decide_eq_true_eq]
  constructor
  · rintro ⟨h1, h2, h3, h4, h5, h6, h7, h8⟩
    exact ⟨h2, h4, h5, (nr_iff (by omega) hl (by omega) (by omega) (by omega) (by omega)).1 h6, (nr_iff (by omega) hl (by omega) (by omega) (by omega) (by omega)).1 h7, (nr_iff (by omega) hl (by omega) (by omega) (by omega) (by omega)).1 h8⟩
  · rintro ⟨h2, h4, h5, h6, h7, h8⟩
    exact ⟨by omega, h2, by omega, h4, h5, (nr_iff (by omega) hl (by omega) (by omega) (by omega) (by omega)).2 h6, (nr_iff (by omega) hl (by omega) (by omega) (by omega) (by omega)).2 h7, (nr_iff (by omega) hl (by omega) (by omega) (by omega) (by omega)).2 h8⟩
theorem nodup_tris (n : Nat) (L : List (Int × Int)) : (tris n L).Nodup := nodup_triA _ _ _
def shN (x k : Nat) : Nat := if k < x then k else k - 1
def liN (x k : Nat) : Nat := if k < x then k else k + 1
theorem shN_cast {x k : Nat} (h : k ≠ x) : ((shN x k : Nat) : Int) = sh x k := by unfold shN sh; split <;> split <;> omega
theorem liN_cast (x k : Nat) : ((liN x k : Nat) : Int) = li x k := by unfold liN li; split <;> split <;> omega
theorem shN_liN (x k : Nat) : shN x (liN x k) = k := by unfold shN liN; (repeat' split) <;> omega
theorem liN_shN {x k : Nat} (h : k ≠ x) : liN x (shN x k) = k := by unfold shN liN; (repeat' split) <;> omega
theorem liN_ne (x k : Nat) : liN x k ≠ x := by unfold liN; split <;> omega
def liT (x : Nat) (t : Tri) : Tri := (liN x t.1, liN x t.2.1, liN x t.2.2)
/-- The triangle at corner x. -/
def xT (n x : Nat) : Tri := if x = 0 then (0, 1, n - 1) else if x = n - 1 then (0, n - 2, n - 1) else (x - 1, x, x + 1)
theorem ex_nat {n x : Nat} (hn : 4 ≤ n) (hx : x < n) : ∃ p q : Nat, ex n x = ((p : Int), (q : Int)) ∧
    ((x = 0 ∧ p = 1 ∧ q = n - 1 ∧ xT n x = (x, p, q)) ∨ (x = n - 1 ∧ p = 0 ∧ q = n - 2 ∧ xT n x = (p, q, x)) ∨ (0 < x ∧ x + 1 < n ∧ p = x - 1 ∧ q = x + 1 ∧ xT n x = (p, x, q))) := by
  unfold ex xT
  by_cases h0 : x = 0
  · subst h0
    exact ⟨1, n - 1, by rw [if_pos (by omega)]; simp only [Prod.mk.injEq]; omega, .inl ⟨rfl, rfl, rfl, by rw [if_pos rfl]⟩⟩
  · by_cases h1 : x = n - 1
    · exact ⟨0, n - 2, by rw [if_neg (by omega), if_pos (by omega)]; simp only [Prod.mk.injEq]; omega, .inr (.inl ⟨h1, rfl, rfl, by rw [if_neg h0, if_pos h1, ← h1]⟩)⟩
    · exact ⟨x - 1, x + 1, by rw [if_neg (by omega), if_neg (by omega)]; simp only [Prod.mk.injEq]; omega, .inr (.inr ⟨by omega, by omega, rfl, rfl, by rw [if_neg h0, if_neg h1]⟩)⟩
theorem cast_pred {n : Nat} (h : 1 ≤ n) : ((n - 1 : Nat) : Int) = (n : Int) - 1 := by omega
theorem tris_cut {n x : Nat} {L : List (Int × Int)} (hf : Full n L) (hb : Bare L x) (hn : 4 ≤ n) (hx : x < n) :
    (tris n L).Perm (xT n x :: (tris (n - 1) (cutB n x L)).map (liT x)) := by
  have hear := hf.ear (n := n) (x := x) (by omega) hb (by omega) (by omega)
  have hfull' : Full ((n - 1 : Nat) : Int) (cutB n x L) := by rw [cast_pred (by omega)]; exact hear.2
  have hmem : ∀ t, t ∈ tris (n - 1) (cutB n x L) ↔ t.1 < t.2.1 ∧ t.2.1 < t.2.2 ∧ t.2.2 < n - 1 ∧ Nr (n - 1) (cutB n x L) t.1 t.2.1 ∧ Nr (n - 1) (cutB n x L) t.2.1 t.2.2 ∧ Nr (n - 1) (cutB n x L) t.1 t.2.2 := fun t => by
    rw [mem_tris (by omega) hfull'.1.1, cast_pred (by omega)]
  have hx1 : ∀ k : Nat, k < n → k ≠ x → (Nr n L x k ↔ (k : Int) = (ex n x).1 ∨ (k : Int) = (ex n x).2) := fun k hk hkx => nr_x hb (by omega) (by omega) (by omega) (by omega) (by omega) (by omega)
  have hc1 : ∀ i k : Nat, i < n → k < n → i ≠ x → k ≠ x → i ≠ k → (Nr n L i k ↔ Nr (n - 1) (cutB n x L) (shN x i : Nat) (shN x k : Nat)) := fun i k hi hk hix hkx hik => by
    rw [shN_cast hix, shN_cast hkx]
    exact nr_cut hf hb (by omega) (by omega) (by omega) (by omega) (by omega) (by omega) (by omega) (by omega) (by omega) (by omega)
  have hexN : Nr n L (ex n x).1 (ex n x).2 := .inr (.inl hear.1)
  obtain ⟨p, q, epq, hpq⟩ := ex_nat hn hx
  rw [epq] at hx1 hexN
  simp only [] at hx1 hexN
  refine (List.perm_ext_iff_of_nodup (nodup_tris n L) ?_).2 fun t => ?_
  · rw [List.nodup_cons]
    refine ⟨fun hm => ?_, nodup_map_on (nodup_tris _ _) fun a _ b _ e => ?_⟩
    · obtain ⟨s, _, e⟩ := List.mem_map.1 hm
      unfold liT at e
      have l1 := liN_ne x s.1
      have l2 := liN_ne x s.2.1
      have l3 := liN_ne x s.2.2
      rcases hpq with ⟨c1, c2, c3, c4⟩ | ⟨c1, c2, c3, c4⟩ | ⟨c0, c1, c2, c3, c4⟩ <;> rw [c4] at e <;> simp only [Prod.mk.injEq] at e <;> omega
    · obtain ⟨a1, a2, a3⟩ := a
      obtain ⟨b1, b2, b3⟩ := b
      simp only [liT, Prod.mk.injEq] at e
      rw [← shN_liN x a1, ← shN_liN x a2, ← shN_liN x a3, e.1, e.2.1, e.2.2, shN_liN, shN_liN, shN_liN]
  · rw [mem_tris (by omega) hf.1.1, List.mem_cons, List.mem_map]
    obtain ⟨a, b, c⟩ := t
    simp only []
    constructor
    · rintro ⟨h1, h2, h3, h4, h5, h6⟩
      by_cases e1 : a = x
      · left
        rw [e1] at h4 h6
        have q1 := (hx1 b (by omega) (by omega)).1 h4
        have q2 := (hx1 c (by omega) (by omega)).1 h6
        rcases hpq with ⟨c1, c2, c3, c4⟩ | ⟨c1, c2, c3, c4⟩ | ⟨c0, c1, c2, c3, c4⟩ <;> rw [c4] <;> simp only [Prod.mk.injEq] <;> omega
      · by_cases e2 : b = x
        · left
          rw [e2] at h4 h5
          have q1 := (hx1 a (by omega) (by omega)).1 h4.symm
          have q2 := (hx1 c (by omega) (by omega)).1 h5
          rcases hpq with ⟨c1, c2, c3, c4⟩ | ⟨c1, c2, c3, c4⟩ | ⟨c0, c1, c2, c3, c4⟩ <;> rw [c4] <;> simp only [Prod.mk.injEq] <;> omega
        · by_cases e3 : c = x
          · left
            rw [e3] at h5 h6
            have q1 := (hx1 a (by omega) (by omega)).1 h6.symm
            have q2 := (hx1 b (by omega) (by omega)).1 h5.symm
            rcases hpq with ⟨c1, c2, c3, c4⟩ | ⟨c1, c2, c3, c4⟩ | ⟨c0, c1, c2, c3, c4⟩ <;> rw [c4] <;> simp only [Prod.mk.injEq] <;> omega
          · right
            refine ⟨(shN x a, shN x b, shN x c), ?_, by simp only [liT, liN_shN e1, liN_shN e2, liN_shN e3]⟩
            rw [hmem]
            simp only []
            refine ⟨?_, ?_, ?_, (hc1 a b (by omega) (by omega) e1 e2 (by omega)).1 h4, (hc1 b c (by omega) (by omega) e2 e3 (by omega)).1 h5, (hc1 a c (by omega) (by omega) e1 e3 (by omega)).1 h6⟩
            · unfold shN; split <;> split <;> omega
            · unfold shN; split <;> split <;> omega
            · unfold shN; split <;> omega
    · rintro (h | ⟨s, hs, e⟩)
      · have np : ∀ k : Nat, k < n → k ≠ x → (k = p ∨ k = q) → Nr n L x k := fun k hk hkx h => (hx1 k hk hkx).2 (by omega)
        rcases hpq with ⟨c1, c2, c3, c4⟩ | ⟨c1, c2, c3, c4⟩ | ⟨c0, c1, c2, c3, c4⟩ <;> rw [c4] at h <;> simp only [Prod.mk.injEq] at h <;> obtain ⟨rfl, rfl, rfl⟩ := h
        · exact ⟨by omega, by omega, by omega, np _ (by omega) (by omega) (by omega), hexN, np _ (by omega) (by omega) (by omega)⟩
        · exact ⟨by omega, by omega, by omega, hexN, (np _ (by omega) (by omega) (by omega)).symm, (np _ (by omega) (by omega) (by omega)).symm⟩
        · exact ⟨by omega, by omega, by omega, (np _ (by omega) (by omega) (by omega)).symm, np _ (by omega) (by omega) (by omega), hexN⟩
      · rw [hmem] at hs
        obtain ⟨h1, h2, h3, h4, h5, h6⟩ := hs
        simp only [liT, Prod.mk.injEq] at e
        obtain ⟨rfl, rfl, rfl⟩ := e
        have b1 : liN x s.1 < n := by unfold liN; split <;> omega
        have b2 : liN x s.2.1 < n := by unfold liN; split <;> omega
        have b3 : liN x s.2.2 < n := by unfold liN; split <;> omega
        have m1 : liN x s.1 < liN x s.2.1 := by unfold liN; split <;> split <;> omega
        have m2 : liN x s.2.1 < liN x s.2.2 := by unfold liN; split <;> split <;> omega
        refine ⟨m1, m2, b3, ?_, ?_, ?_⟩
        · rw [hc1 _ _ b1 b2 (liN_ne _ _) (liN_ne _ _) (by omega), shN_liN, shN_liN]; exact h4
        · rw [hc1 _ _ b2 b3 (liN_ne _ _) (liN_ne _ _) (by omega), shN_liN, shN_liN]; exact h5
        · rw [hc1 _ _ b1 b3 (liN_ne _ _) (liN_ne _ _) (by omega), shN_liN, shN_liN]; exact h6
theorem nth_bump {xs : List Int} {c k : Nat} (hc : c < xs.length) : nth (bump xs c) k = nth xs k + if k = c then 1 else 0 := by
  unfold bump
  rw [nth_set hc]
  split
  · rename_i h; rw [h]
  · omega
theorem nth_bump3 {xs : List Int} {t : Tri} {k : Nat} (h1 : t.1 < t.2.1) (h2 : t.2.1 < t.2.2) (h3 : t.2.2 < xs.length) : nth (bump3 xs t) k = nth xs k + if hasC t k then 1 else 0 := by
  unfold bump3
  rw [nth_bump (by simp only [bump_length]; omega), nth_bump (by simp only [bump_length]; omega), nth_bump (by omega)]
  unfold hasC
  (repeat' split) <;> omega
/-- How many of the triangles have corner c. -/
def cntT (T : List Tri) (c : Nat) : Nat := T.countP fun t => decide (hasC t c)
theorem nth_fold {n : Nat} : ∀ (T : List Tri) (xs : List Int), xs.length = n → (∀ t ∈ T, t.1 < t.2.1 ∧ t.2.1 < t.2.2 ∧ t.2.2 < n) → (T.foldl bump3 xs).length = n ∧ ∀ c, nth (T.foldl bump3 xs) c = nth xs c + cntT T c := by
  intro T
  induction T with
  | nil => intro xs hx _; exact ⟨hx, fun c => by simp [cntT]⟩
  | cons t T ih =>
    intro xs hx hT
    obtain ⟨h1, h2, h3⟩ := hT t (by simp)
    have hl : (bump3 xs t).length = n := by simp [bump3, bump_length, hx]
    obtain ⟨i1, i2⟩ := ih (bump3 xs t) hl fun s hs => hT s (List.mem_cons_of_mem _ hs)
    refine ⟨i1, fun c => ?_⟩
    rw [List.foldl_cons, i2, nth_bump3 h1 h2 (by omega)]
    unfold cntT
    rw [List.countP_cons]
    by_cases h : hasC t c <;> simp [h] <;> omega
theorem tris_asc {n : Nat} {L : List (Int × Int)} (hf : Full n L) : ∀ t ∈ tris n L, t.1 < t.2.1 ∧ t.2.1 < t.2.2 ∧ t.2.2 < n := fun t ht => by
  have h := (mem_tris (by have := hf.2.1; omega) hf.1.1).1 ht
  exact ⟨h.1, h.2.1, h.2.2.1⟩
theorem nth_round {n : Nat} {L : List (Int × Int)} (hf : Full n L) : (roundL n L).length = n ∧ ∀ c, nth (roundL n L) c = cntT (tris n L) c := by
  obtain ⟨h1, h2⟩ := nth_fold (tris n L) (List.replicate n 0) (by simp) (tris_asc hf)
  refine ⟨h1, fun c => ?_⟩
  unfold roundL roundT
  rw [h2, nth_replicate]
  omega
theorem full_three {L : List (Int × Int)} (h : Full (3 : Nat) L) : L = [] := List.eq_nil_of_length_eq_zero (by have := h.2.2; omega)
theorem tris_length : ∀ (m : Nat) {L : List (Int × Int)}, Full ((m + 3 : Nat) : Int) L → (tris (m + 3) L).length = m + 1 := by
  intro m
  induction m with
  | zero =>
    intro L h
    rw [full_three h]
    decide
  | succ m ih =>
    intro L h
    obtain ⟨x, h0, hx, hb⟩ := bare_one h.1 (by omega)
    obtain ⟨k, rfl⟩ : ∃ k : Nat, x = k := ⟨x.toNat, by omega⟩
    have hear := (h.ear (by omega) hb h0 hx).2
    rw [show ((m + 1 + 3 : Nat) : Int) - 1 = ((m + 3 : Nat) : Int) by omega] at hear
    have hp := (tris_cut h hb (by omega) (by omega)).length_eq
    rw [show m + 1 + 3 - 1 = m + 3 by omega, List.length_cons, List.length_map, ih hear] at hp
    exact hp
theorem hasC_li {x : Nat} {t : Tri} {c : Nat} (hc : c ≠ x) : hasC (liT x t) c ↔ hasC t (shN x c) := by
  have e : ∀ k, liN x k = c ↔ k = shN x c := fun k => ⟨fun h => by rw [← h, shN_liN], fun h => by rw [h, liN_shN hc]⟩
  unfold hasC liT
  simp only [e]
theorem hasC_x {x : Nat} {t : Tri} : ¬ hasC (liT x t) x := by
  have := liN_ne x
  unfold hasC liT
  simp [this]
/-- The round list when a corner is cut off. -/
theorem round_cut {n x : Nat} {L : List (Int × Int)} (hf : Full n L) (hb : Bare L x) (hn : 4 ≤ n) (hx : x < n) (c : Nat) :
    nth (roundL n L) c = if c = x then 1 else nth (roundL (n - 1) (cutB n x L)) (shN x c) + if (c : Int) = (ex n x).1 ∨ (c : Int) = (ex n x).2 then 1 else 0 := by
  have hear := (hf.ear (by omega) hb (by omega) (by omega)).2
  rw [← cast_pred (by omega)] at hear
  rw [(nth_round hf).2, (nth_round hear).2]
  have hp := tris_cut hf hb hn hx
  have hcount : cntT (tris n L) c = (if hasC (xT n x) c then 1 else 0) + cntT ((tris (n - 1) (cutB n x L)).map (liT x)) c := by
    unfold cntT
    rw [hp.countP_eq, List.countP_cons]
    by_cases h : hasC (xT n x) c <;> simp [h] <;> omega
  rw [hcount]
  obtain ⟨p, q, epq, hpq⟩ := ex_nat hn hx
  rw [epq]
  have hxt : hasC (xT n x) c ↔ c = x ∨ c = p ∨ c = q := by
    unfold hasC
    rcases hpq with ⟨c1, c2, c3, c4⟩ | ⟨c1, c2, c3, c4⟩ | ⟨c0, c1, c2, c3, c4⟩ <;> rw [c4] <;> simp only [] <;> omega
  by_cases hc : c = x
  · subst hc
    rw [if_pos rfl, if_pos (hxt.2 (.inl rfl))]
    have : cntT ((tris (n - 1) (cutB n c L)).map (liT c)) c = 0 := by
      unfold cntT
      rw [List.countP_eq_zero]
      intro t ht
      obtain ⟨s, _, rfl⟩ := List.mem_map.1 ht
      simp [hasC_x]
    omega
  · rw [if_neg hc]
    have : cntT ((tris (n - 1) (cutB n x L)).map (liT x)) c = cntT (tris (n - 1) (cutB n x L)) (shN x c) := by
      unfold cntT
      rw [List.countP_map]
      congr 1
      funext t
      simp [hasC_li hc]
    rw [this]
    simp only []
    by_cases hcpq : c = p ∨ c = q
    · rw [if_pos (hxt.2 (.inr hcpq)), if_pos (by omega)]; omega
    · rw [if_neg (fun h => by have := hxt.1 h; omega), if_neg (by omega)]; omega
/-- Every corner has a triangle, and there are not many. -/
theorem round_bds : ∀ (m : Nat) {L : List (Int × Int)}, Full ((m + 3 : Nat) : Int) L → ∀ c, c < m + 3 → 1 ≤ nth (roundL (m + 3) L) c ∧ nth (roundL (m + 3) L) c ≤ m + 1 := by
  intro m L h c hc
  refine ⟨?_, ?_⟩
  · revert L c
    induction m with
    | zero =>
      intro L h c hc
      rw [full_three h]
      have : c = 0 ∨ c = 1 ∨ c = 2 := by omega
      rcases this with rfl | rfl | rfl <;> decide
    | succ m ih =>
      intro L h c hc
      obtain ⟨x, h0, hx, hb⟩ := bare_one h.1 (by omega)
      obtain ⟨k, rfl⟩ : ∃ k : Nat, x = k := ⟨x.toNat, by omega⟩
      have hear := (h.ear (by omega) hb h0 hx).2
      rw [show ((m + 1 + 3 : Nat) : Int) - 1 = ((m + 3 : Nat) : Int) by omega] at hear
      rw [round_cut h hb (by omega) (by omega)]
      split
      · omega
      · have := ih hear (shN k c) (by unfold shN; split <;> omega)
        rw [show m + 1 + 3 - 1 = m + 3 by omega]
        split <;> omega
  · rw [(nth_round h).2]
    have := List.countP_le_length (p := fun t => decide (hasC t c)) (l := tris (m + 3) L)
    rw [tris_length m h] at this
    unfold cntT
    omega
/-- A corner with one triangle alone has no line. -/
theorem bare_of_one : ∀ (m : Nat) {L : List (Int × Int)}, Full ((m + 3 : Nat) : Int) L → ∀ c : Nat, c < m + 3 → nth (roundL (m + 3) L) c = 1 → Bare L c := by
  intro m
  induction m with
  | zero => intro L h c hc _ q hq; rw [full_three h] at hq; simp at hq
  | succ m ih =>
    intro L h c hc h1 q hq
    obtain ⟨x, h0, hx, hb⟩ := bare_one h.1 (by omega)
    obtain ⟨k, rfl⟩ : ∃ k : Nat, x = k := ⟨x.toNat, by omega⟩
    have hear := (h.ear (by omega) hb h0 hx).2
    rw [show ((m + 1 + 3 : Nat) : Int) - 1 = ((m + 3 : Nat) : Int) by omega] at hear
    by_cases hck : c = k
    · subst hck; exact hb q hq
    · rw [round_cut h hb (by omega) (by omega), if_neg hck, show m + 1 + 3 - 1 = m + 3 by omega] at h1
      have hs : shN k c < m + 3 := by unfold shN; split <;> omega
      have hlow := (round_bds m hear _ hs).1
      have hbare := ih hear _ hs (by split at h1 <;> omega)
      have hnot : ¬ ((c : Int) = (ex ((m + 1 + 3 : Nat) : Int) k).1 ∨ (c : Int) = (ex ((m + 1 + 3 : Nat) : Int) k).2) := by
        intro hh
        rw [if_pos hh] at h1
        omega
      by_cases he : q = ex ((m + 1 + 3 : Nat) : Int) k
      · subst he
        refine ⟨fun e => hnot (.inl e.symm), fun e => hnot (.inr e.symm)⟩
      · have hq' := hb q hq
        have hm : shP k q ∈ cutB ((m + 1 + 3 : Nat) : Int) k L := (mem_cutB hb).2 ⟨by rw [liP_shP hq'.1 hq'.2]; exact hq, by rw [liP_shP hq'.1 hq'.2]; exact he⟩
        have := hbare _ hm
        rw [shN_cast hck] at this
        unfold shP at this
        simp only [] at this
        refine ⟨fun e => this.1 (by rw [e]), fun e => this.2 (by rw [e])⟩
/-- The round list, cut, is the round list of the lines, cut. -/
theorem cutL_round {n x : Nat} {L : List (Int × Int)} (hf : Full n L) (hb : Bare L x) (hn : 4 ≤ n) (hx : x < n) : cutL (roundL n L) x = roundL (n - 1) (cutB n x L) := by
  have hear := (hf.ear (by omega) hb (by omega) (by omega)).2
  rw [← cast_pred (by omega)] at hear
  have hl := (nth_round hf).1
  have hl' := (nth_round hear).1
  have hcl := cutL_length (R := roundL n L) (c := x) (by omega)
  refine ext_nth (by omega) fun i hi => ?_
  have hrc := round_cut hf hb hn hx (liN x i)
  rw [if_neg (liN_ne x i), shN_liN] at hrc
  obtain ⟨p, q, epq, hpq⟩ := ex_nat hn hx
  rw [epq] at hrc
  simp only [] at hrc
  unfold cutL
  simp only [hl]
  have ea : (x + n - 1) % n = if x = 0 then n - 1 else x - 1 := by rw [mod_small (by omega)]; split <;> split <;> omega
  have eb : (x + 1) % n = if x = n - 1 then 0 else x + 1 := by rw [mod_small (by omega)]; split <;> split <;> omega
  have hab : (x + n - 1) % n ≠ (x + 1) % n := by rw [ea, eb]; split <;> split <;> omega
  have ha : (x + n - 1) % n < n := Nat.mod_lt _ (by omega)
  have hb' : (x + 1) % n < n := Nat.mod_lt _ (by omega)
  rw [nth_eraseIdx (by simp; omega)]
  have inner : nth ((roundL n L).set ((x + n - 1) % n) (nth (roundL n L) ((x + n - 1) % n) - 1)) ((x + 1) % n) = nth (roundL n L) ((x + 1) % n) := by
    rw [nth_set (by omega), if_neg (fun e => hab e.symm)]
  have key : ∀ j, nth (((roundL n L).set ((x + n - 1) % n) (nth (roundL n L) ((x + n - 1) % n) - 1)).set ((x + 1) % n) (nth ((roundL n L).set ((x + n - 1) % n) (nth (roundL n L) ((x + n - 1) % n) - 1)) ((x + 1) % n) - 1)) j = nth (roundL n L) j - if j = (x + n - 1) % n ∨ j = (x + 1) % n then 1 else 0 := by
    intro j
    rw [inner, nth_set (by simp; omega), nth_set (by omega)]
    by_cases j1 : j = (x + 1) % n
    · rw [if_pos j1, if_pos (.inr j1), j1]
    · rw [if_neg j1]
      by_cases j2 : j = (x + n - 1) % n
      · rw [if_pos j2, if_pos (.inl j2), j2]
      · rw [if_neg j2, if_neg (by omega)]; omega
  have hk := key (liN x i)
  have hset : (liN x i = (x + n - 1) % n ∨ liN x i = (x + 1) % n) ↔ (((liN x i : Nat) : Int) = (p : Int) ∨ ((liN x i : Nat) : Int) = (q : Int)) := by
    rw [ea, eb]
    rcases hpq with ⟨c1, c2, c3, c4⟩ | ⟨c1, c2, c3, c4⟩ | ⟨c0, c1, c2, c3, c4⟩ <;> (repeat' split) <;> omega
  have hfin : nth (roundL n L) (liN x i) - (if liN x i = (x + n - 1) % n ∨ liN x i = (x + 1) % n then 1 else 0) = nth (roundL (n - 1) (cutB n x L)) i := by
    rw [hrc]
    by_cases h : liN x i = (x + n - 1) % n ∨ liN x i = (x + 1) % n
    · rw [if_pos h, if_pos (hset.1 h)]; omega
    · rw [if_neg h, if_neg (fun h' => h (hset.2 h'))]; omega
  rw [hfin] at hk
  unfold liN at hk
  split
  · rename_i hlt; rw [if_pos hlt] at hk; exact hk
  · rename_i hlt; rw [if_neg hlt] at hk; exact hk
end Go.Proofs.Ytflbaadfbjpakaa
