/- Layer 5: trees: their sets, their texts, and that a text is of one tree alone; parts in the order of their least beasts. -/
import Derived.Test.YtfdaljekehkkaaaGreatDoorBa
namespace Go.Proofs.YtfdaljekehkkaaaGreatDoor
open Go Go.RowKit

/-- A tree: a beast, or a family of trees. -/
inductive Tr where
  | leaf (b : Nat)
  | fam (ks : List Tr)
mutual
/-- All beasts of a tree. -/
def Tr.set : Tr → Nat
  | .leaf b => pw b
  | .fam ks => setL ks
def setL : List Tr → Nat
  | [] => 0
  | t :: ts => t.set ||| setL ts
end
mutual
/-- The tree as a string. -/
def Tr.txt : Tr → List UInt8
  | .leaf b => [UInt8.ofNat (48 + b)]
  | .fam ks => 40 :: (txtL ks ++ [41])
def txtL : List Tr → List UInt8
  | [] => []
  | t :: ts => t.txt ++ conL ts
def conL : List Tr → List UInt8
  | [] => []
  | t :: ts => 44 :: (t.txt ++ conL ts)
end
/-- b comes behind a: no beast in common, a greater least one. -/
def Behind (a b : Nat) : Prop := a &&& b = 0 ∧ lowB a < lowB b
mutual
/-- A tree of beasts below m, its parts in their order. -/
def Good (m : Nat) : Tr → Prop
  | .leaf b => b < m
  | .fam ks => 2 ≤ ks.length ∧ (ks.map Tr.set).Pairwise Behind ∧ GoodL m ks
def GoodL (m : Nat) : List Tr → Prop
  | [] => True
  | t :: ts => Good m t ∧ GoodL m ts
end
mutual
theorem Tr.ind {P : Tr → Prop} (h1 : ∀ b, P (.leaf b)) (h2 : ∀ ks : List Tr, (∀ t ∈ ks, P t) → P (.fam ks)) : ∀ t, P t
  | .leaf b => h1 b
  | .fam ks => h2 ks (Tr.indL h1 h2 ks)
theorem Tr.indL {P : Tr → Prop} (h1 : ∀ b, P (.leaf b)) (h2 : ∀ ks : List Tr, (∀ t ∈ ks, P t) → P (.fam ks)) : ∀ ks : List Tr, ∀ t ∈ ks, P t
  | [] => fun t ht => by cases ht
  | k :: ks => fun t ht => by
    rcases List.mem_cons.1 ht with e | h
    · rw [e]; exact Tr.ind h1 h2 k
    · exact Tr.indL h1 h2 ks t h
end
theorem goodL_iff {m : Nat} {ks : List Tr} : GoodL m ks ↔ ∀ t ∈ ks, Good m t := by
  induction ks with
  | nil => simp [GoodL]
  | cons k ks ih => simp [GoodL, ih]
theorem goodL_append {m : Nat} {ks ls : List Tr} : GoodL m (ks ++ ls) ↔ GoodL m ks ∧ GoodL m ls := by
  simp only [goodL_iff, List.mem_append]
  exact ⟨fun h => ⟨fun t ht => h t (.inl ht), fun t ht => h t (.inr ht)⟩, fun h t ht => ht.elim (h.1 t) (h.2 t)⟩
theorem conL_append (ks ls : List Tr) : conL (ks ++ ls) = conL ks ++ conL ls := by
  induction ks with
  | nil => simp [conL]
  | cons k ks ih => simp [conL, ih]
theorem setL_append (ks ls : List Tr) : setL (ks ++ ls) = setL ks ||| setL ls := by
  induction ks with
  | nil => simp [setL]
  | cons k ks ih => simp [setL, ih, Nat.or_assoc]
theorem leaf_byte {b b' : Nat} (h : b < 10) (h' : b' < 10) (e : UInt8.ofNat (48 + b) = UInt8.ofNat (48 + b')) : b = b' := by
  have := congrArg UInt8.toNat e
  simp only [UInt8.toNat_ofNat'] at this
  omega
theorem leaf_ne {b : Nat} (h : b < 10) (c : UInt8) (hc : c.toNat < 48) : UInt8.ofNat (48 + b) ≠ c := by
  intro e
  have := congrArg UInt8.toNat e
  simp only [UInt8.toNat_ofNat'] at this
  omega
mutual
theorem txt_inj {m : Nat} (hm : m ≤ 9) : ∀ (t t' : Tr) (r r' : List UInt8), Good m t → Good m t' → t.txt ++ r = t'.txt ++ r' → t = t' ∧ r = r'
  | .leaf b, .leaf b', r, r', h, h', e => by
    simp only [Tr.txt, List.cons_append, List.nil_append, List.cons.injEq] at e
    simp only [Good] at h h'
    exact ⟨by rw [leaf_byte (by omega) (by omega) e.1], e.2⟩
  | .leaf b, .fam ks, r, r', h, h', e => by
    simp only [Tr.txt, List.cons_append, List.nil_append, List.cons.injEq] at e
    simp only [Good] at h
    exact absurd e.1 (leaf_ne (by omega) 40 (by decide))
  | .fam ks, .leaf b, r, r', h, h', e => by
    simp only [Tr.txt, List.cons_append, List.nil_append, List.cons.injEq] at e
    simp only [Good] at h'
    exact absurd e.1.symm (leaf_ne (by omega) 40 (by decide))
  | .fam [], .fam _, r, r', h, h', e => by simp only [Good] at h; simp at h
  | .fam (_ :: _), .fam [], r, r', h, h', e => by simp only [Good] at h'; simp at h'
  | .fam (k :: ks), .fam (k' :: ks'), r, r', h, h', e => by
    simp only [Tr.txt, txtL, List.cons_append, List.append_assoc, List.nil_append, List.cons.injEq, true_and] at e
    simp only [Good, GoodL] at h h'
    obtain ⟨e1, e2⟩ := txt_inj hm k k' _ _ h.2.2.1 h'.2.2.1 e
    obtain ⟨e3, e4⟩ := conL_inj hm ks ks' r r' h.2.2.2 h'.2.2.2 e2
    exact ⟨by rw [e1, e3], e4⟩
theorem conL_inj {m : Nat} (hm : m ≤ 9) : ∀ (ks ks' : List Tr) (r r' : List UInt8), GoodL m ks → GoodL m ks' → conL ks ++ 41 :: r = conL ks' ++ 41 :: r' → ks = ks' ∧ r = r'
  | [], [], r, r', _, _, e => by simp only [conL, List.nil_append, List.cons.injEq, true_and] at e; exact ⟨rfl, e⟩
  | [], _ :: _, r, r', _, _, e => by simp only [conL, List.nil_append, List.cons_append, List.cons.injEq] at e; exact absurd e.1 (by decide)
  | _ :: _, [], r, r', _, _, e => by simp only [conL, List.nil_append, List.cons_append, List.cons.injEq] at e; exact absurd e.1 (by decide)
  | k :: ks, k' :: ks', r, r', h, h', e => by
    simp only [conL, List.cons_append, List.append_assoc, List.cons.injEq, true_and] at e
    simp only [GoodL] at h h'
    obtain ⟨e1, e2⟩ := txt_inj hm k k' _ _ h.1 h'.1 e
    obtain ⟨e3, e4⟩ := conL_inj hm ks ks' r r' h.2 h'.2 e2
    exact ⟨by rw [e1, e3], e4⟩
end
/-- What was read of a list of trees begins it. -/
theorem conL_part {m : Nat} (hm : m ≤ 9) : ∀ (ps ks : List Tr) (T r : List UInt8), GoodL m ps → GoodL m ks → (∃ c l, T = c :: l ∧ (c = 44 ∨ c = 41)) → conL ks ++ 41 :: r = conL ps ++ T → ∃ ls, ks = ps ++ ls ∧ T = conL ls ++ 41 :: r
  | [], ks, T, r, _, _, _, e => ⟨ks, rfl, by rw [e]; simp [conL]⟩
  | p :: ps, [], T, r, _, _, _, e => by simp only [conL, List.nil_append, List.cons_append, List.cons.injEq] at e; exact absurd e.1 (by decide)
  | p :: ps, k :: ks, T, r, h, h', hT, e => by
    simp only [conL, List.cons_append, List.append_assoc, List.cons.injEq, true_and] at e
    simp only [GoodL] at h h'
    obtain ⟨e1, e2⟩ := txt_inj hm k p _ _ h'.1 h.1 e
    obtain ⟨ls, e3, e4⟩ := conL_part hm ps ks T r h.2 h'.2 hT e2
    exact ⟨ls, by rw [e1, e3]; rfl, e4⟩
/-- The text s begins with the tree t; r comes after it. -/
def Par (m : Nat) (s : List UInt8) (t : Tr) (r : List UInt8) : Prop := Good m t ∧ s = t.txt ++ r
theorem Par.one {m : Nat} (hm : m ≤ 9) {s r r' : List UInt8} {t t' : Tr} (h : Par m s t r) (h' : Par m s t' r') : t = t' ∧ r = r' :=
  txt_inj hm t t' r r' h.1 h'.1 (h.2.symm.trans h'.2)
/-- A family is being read: s begins with its bracket; ps have been read, the text that is left is T. -/
structure Famly (m : Nat) (s : List UInt8) (ps : List Tr) (T : List UInt8) : Prop where
  good : GoodL m ps
  left : ∃ c l, T = c :: l ∧ (if ps = [] then c = 40 else c = 44 ∨ c = 41)
  all : 44 :: s.tail = conL ps ++ 44 :: T.tail ∧ ps = [] ∨ 44 :: s.tail = conL ps ++ T ∧ ps ≠ []
theorem Famly.start {m : Nat} {l : List UInt8} : Famly m (40 :: l) [] (40 :: l) := ⟨trivial, ⟨40, l, rfl, by simp⟩, .inl ⟨by simp [conL], rfl⟩⟩
/-- One tree more has been read. -/
theorem Famly.next {m : Nat} {s T r : List UInt8} {ps : List Tr} {p : Tr} (h : Famly m s ps T) (hp : Par m T.tail p r) (hc : T.head? ≠ some 41) (hr : ∃ c l, r = c :: l ∧ (c = 44 ∨ c = 41)) : Famly m s (ps ++ [p]) r := by
  refine ⟨goodL_append.2 ⟨h.good, hp.1, trivial⟩, ?_, .inr ⟨?_, by simp⟩⟩
  · obtain ⟨c, l, e, hc⟩ := hr
    exact ⟨c, l, e, by rw [if_neg (by simp)]; exact hc⟩
  · have e : conL (ps ++ [p]) ++ r = conL ps ++ 44 :: T.tail := by
      rw [conL_append, hp.2]; simp [conL]
    rcases h.all with ⟨h1, _⟩ | ⟨h1, hne⟩
    · rw [e]; exact h1
    · obtain ⟨c, l, e2, hk⟩ := h.left
      rw [if_neg hne] at hk
      have : c = 44 := by
        rcases hk with k | k
        · exact k
        · rw [e2, k] at hc; exact absurd rfl hc
      rw [e, h1, e2, this]; rfl
/-- What else a family that begins so has. -/
theorem Famly.rest {m : Nat} (hm : m ≤ 9) {s T r : List UInt8} {ps ks : List Tr} (h : Famly m s ps T) (hs : s.head? = some 40) (hk : Par m s (.fam ks) r) : ∃ ls, ks = ps ++ ls ∧ (T.head? ≠ some 41 → ∃ k kt, ls = k :: kt ∧ Par m T.tail k (conL kt ++ 41 :: r)) ∧ (T.head? = some 41 → ls = [] ∧ T.tail = r) := by
  obtain ⟨hg, e⟩ := hk
  simp only [Good] at hg
  obtain ⟨k, kt, rfl⟩ : ∃ k kt, ks = k :: kt := by
    cases ks with
    | nil => simp at hg
    | cons k kt => exact ⟨k, kt, rfl⟩
  have es : 44 :: s.tail = conL (k :: kt) ++ 41 :: r := by rw [e]; simp [Tr.txt, txtL, conL]
  have hgl := hg.2.2
  rcases h.all with ⟨h1, hps⟩ | ⟨h1, hne⟩
  · subst hps
    refine ⟨k :: kt, rfl, fun _ => ⟨k, kt, rfl, ?_⟩, fun hh => ?_⟩
    · rw [h1] at es
      simp only [conL, List.nil_append, List.cons_append, List.append_assoc, List.cons.injEq, true_and] at es
      simp only [GoodL] at hgl
      exact ⟨hgl.1, es⟩
    · obtain ⟨c, l, e2, hk2⟩ := h.left
      rw [if_pos rfl] at hk2
      rw [e2, hk2] at hh
      simp at hh
  · obtain ⟨c, l, e2, hk2⟩ := h.left
    rw [if_neg hne] at hk2
    obtain ⟨ls, e3, e4⟩ := conL_part hm ps (k :: kt) T r h.good hgl ⟨c, l, e2, hk2⟩ (by rw [← es, h1])
    refine ⟨ls, e3, fun hh => ?_, fun hh => ?_⟩
    · cases ls with
      | nil => rw [e4] at hh; simp [conL] at hh
      | cons k2 kt2 =>
        rw [e3] at hgl
        have := (goodL_append.1 hgl).2
        simp only [GoodL] at this
        refine ⟨k2, kt2, rfl, this.1, ?_⟩
        rw [e4]; simp [conL]
    · cases ls with
      | nil => rw [e4]; exact ⟨rfl, by simp [conL]⟩
      | cons k2 kt2 => rw [e4] at hh; simp [conL] at hh
/-- The bracket that ends the family has come. -/
theorem Famly.done {m : Nat} {s T : List UInt8} {ps : List Tr} (h : Famly m s ps T) (hs : s.head? = some 40) (hT : T.head? = some 41) (h2 : 2 ≤ ps.length) (hp : (ps.map Tr.set).Pairwise Behind) : Par m s (.fam ps) T.tail := by
  refine ⟨⟨h2, hp, h.good⟩, ?_⟩
  obtain ⟨c, l, e2, hk2⟩ := h.left
  have hne : ps ≠ [] := by intro e; rw [e] at h2; simp at h2
  rcases h.all with ⟨_, h1⟩ | ⟨h1, _⟩
  · exact absurd h1 hne
  · obtain ⟨k, kt, rfl⟩ : ∃ k kt, ps = k :: kt := by
      cases ps with
      | nil => exact absurd rfl hne
      | cons k kt => exact ⟨k, kt, rfl⟩
    cases s with
    | nil => simp at hs
    | cons c0 s0 =>
      simp only [List.head?_cons, Option.some.injEq] at hs
      subst hs
      rw [e2] at hT h1 ⊢
      simp only [List.head?_cons, Option.some.injEq] at hT
      subst hT
      simp only [List.tail_cons, conL, List.cons_append, List.append_assoc, List.cons.injEq, true_and] at h1
      simp only [Tr.txt, txtL, List.tail_cons, List.cons_append, List.append_assoc, List.nil_append, h1]
end Go.Proofs.YtfdaljekehkkaaaGreatDoor
