/- Layer 7, by the program: the map of what is known of the bars. -/
import Derived.Test.YtdafpjapepfniaaWm
namespace Go.Proofs.Ytdafpjapepfniaa
open Go Go.RowKit

/-- A list of different numbers below N has at most N of them. -/
theorem nodup_bound : ∀ (N : Nat) (l : List Nat), l.Nodup → (∀ x ∈ l, x < N) → l.length ≤ N := by
  intro N
  induction N with
  | zero =>
    intro l _ h
    cases l with
    | nil => exact Nat.le_refl _
    | cons x l => have := h x (by simp); omega
  | succ N ih =>
    intro l hl h
    have h1 := ih (l.erase N) (hl.erase N) (fun x hx => by
      have h2 := h x (List.mem_of_mem_erase hx)
      have h3 : x ≠ N := fun e => by
        subst e
        exact (List.Nodup.not_mem_erase hl) hx
      omega)
    have h2 := List.length_erase_le (a := N) (l := l)
    by_cases hm : N ∈ l
    · rw [List.length_erase_of_mem hm] at h1; omega
    · rw [List.erase_of_not_mem hm] at h1; omega
theorem hk_inj {f g : Nat → Nat} (hf : IsB f) (hg : IsB g) (h : hk f = hk g) : f = g := by
  have h1 := keyOf_hp hf
  rw [h] at h1
  have := lawHp.inj h1 (keyOf_hp hg)
  simp only [Value.agg.injEq, Array.mk.injEq, List.cons.injEq, Value.int.injEq, true_and, and_true] at this
  exact hf.ext hg (by omega) (by omega) (by omega) (by omega) (by omega) (by omega)
/-- A key of a bar. -/
def IsHk (k : Lit) : Prop := ∃ f, IsB f ∧ k = hk f
theorem isKey_hk (f : Nat → Nat) : WideAt.IsKeyLit (hk f) := trivial
/-- All keys are keys of bars, each once. -/
def KeysHk (D : DataW Unit) : Prop := ∃ es, D = .map es ∧ es.Pairwise (fun p q => p.1 ≠ q.1) ∧ ∀ p ∈ es, IsHk p.1
theorem KeysHk.tidy {D : DataW Unit} (h : KeysHk D) : Maps.Tidy D := let ⟨es, e, h, _⟩ := h; ⟨es, e, h⟩
theorem KeysHk.size {D : DataW Unit} (h : KeysHk D) : Maps.size D ≤ 262144 := by
  obtain ⟨es, rfl, hp, hk'⟩ := h
  rw [Maps.size_eq]
  have hc : ∀ k : Lit, ∃ n : Nat, IsHk k → ∃ f, IsB f ∧ k = hk f ∧ n = codeB f := fun k => by
    by_cases h : IsHk k
    · obtain ⟨f, h1, h2⟩ := h
      exact ⟨codeB f, fun _ => ⟨f, h1, h2, rfl⟩⟩
    · exact ⟨0, fun h' => absurd h' h⟩
  have hc2 : ∃ code : Lit → Nat, ∀ k, IsHk k → ∃ f, IsB f ∧ k = hk f ∧ code k = codeB f := ⟨fun k => (hc k).choose, fun k => (hc k).choose_spec⟩
  obtain ⟨code, hcode⟩ := hc2
  have h1 : (es.map fun p => code p.1).Nodup := by
    unfold List.Nodup
    rw [List.pairwise_map]
    refine List.Pairwise.imp_of_mem (fun {p q} hp' hq' hne e => hne ?_) hp
    obtain ⟨f, a1, a2, a3⟩ := hcode _ (hk' p hp')
    obtain ⟨g, b1, b2, b3⟩ := hcode _ (hk' q hq')
    rw [a3, b3] at e
    rw [a2, b2, codeB_inj a1 b1 e]
  have h2 := nodup_bound 262144 _ h1 (fun n hn => by
    obtain ⟨p, hp', rfl⟩ := List.mem_map.1 hn
    obtain ⟨f, a1, a2, a3⟩ := hcode _ (hk' p hp')
    rw [a3]; exact codeB_lt a1)
  rwa [List.length_map] at h2
theorem insert_mem {x p : Lit × DataW Unit} : ∀ {l : List (Lit × DataW Unit)}, p ∈ DataW.insert x l → p = x ∨ p ∈ l := by
  intro l
  induction l with
  | nil => intro h; simp [DataW.insert] at h; exact .inl h
  | cons y r ih =>
    intro h
    unfold DataW.insert at h
    split at h
    · rcases List.mem_cons.1 h with h | h
      · exact .inl h
      · exact .inr h
    · rcases List.mem_cons.1 h with h | h
      · exact .inr (by rw [h]; simp)
      · rcases ih h with h | h
        · exact .inl h
        · exact .inr (List.mem_cons_of_mem _ h)
theorem KeysHk.put {D : DataW Unit} (h : KeysHk D) {f : Nat → Nat} (hf : IsB f) (d : DataW Unit) : KeysHk (D.put (hk f) d) := by
  have ht := h.tidy.put (isKey_hk f) d
  obtain ⟨es, rfl, hp, hk'⟩ := h
  obtain ⟨es', e, hp'⟩ := ht
  refine ⟨es', e, hp', fun p hpm => ?_⟩
  have e2 : (DataW.map es : DataW Unit).put (hk f) d = .map (DataW.insert (hk f, d) (es.filter fun p => !p.1.sameKey (hk f))) := rfl
  rw [e2] at e
  injection e with e
  rw [← e] at hpm
  rcases insert_mem hpm with h | h
  · rw [h]; exact ⟨f, hf, rfl⟩
  · exact hk' p (List.mem_filter.1 h).1
/-- Block B is a map of bars; of each that is there it tells whether the player who is next wins. -/
def KMC (B : Nat) (w : World) : Prop :=
  ∃ D : DataW Unit, w.ownsMap Try.prog 60 (plainElem Try.prog 4) B 262144 D ∧ KeysHk D ∧ ∀ f, IsB f → Maps.has D (hk f) = true → D.atKey (hk f) (.lit (.bool false)) = .lit (.bool (cWin f))
theorem KMC.lt {B : Nat} {w : World} (h : KMC B w) : B < w.heap.size := by
  obtain ⟨D, h1, _, _⟩ := h
  exact h1.lt
theorem KMC.grown {B : Nat} {w w' : World} {r : Option Nat} (h : KMC B w) (hg : w.grownBy w' r) (hne : some B ≠ r) : KMC B w' := by
  obtain ⟨D, h1, h2, h3⟩ := h
  have hlt := h1.lt
  obtain ⟨es, clock, hh, F, hs, e⟩ := h1
  exact ⟨D, ⟨es, clock, (hg.block B hlt hne).trans hh, F, hs, e⟩, h2, h3⟩
theorem KMC.made (w : World) : KMC w.heap.size (w.alloc (.map #[] 0)) :=
  ⟨.map [], (World.ownsMap_made _ _ _ _).mono (by omega), ⟨[], rfl, List.Pairwise.nil, fun p hp => by cases hp⟩, fun f _ h => by rw [Maps.has_eq] at h; simp at h⟩
theorem ownsMap_size {w : World} {B n : Nat} {D : DataW Unit} {k : TypeId} {e : Value → Option (DataW Unit × List MemPlace)} (h : w.ownsMap Try.prog k e B n D) (hk : KeysHk D) : w.ownsMap Try.prog k e B 262144 D := by
  obtain ⟨es, clock, hh, F, hs, hD⟩ := h
  refine ⟨es, clock, hh, F, ?_, hD⟩
  have h1 := hk.size
  rw [hD, Maps.size_eq, length_sorted] at h1
  simpa using h1
theorem KMC.put {B n : Nat} {w : World} {D : DataW Unit} {v : Bool} {f : Nat → Nat} (h1 : w.ownsMap Try.prog 60 (plainElem Try.prog 4) B n (D.put (hk f) (.lit (.bool v)))) (h2 : KeysHk D)
    (h3 : ∀ f, IsB f → Maps.has D (hk f) = true → D.atKey (hk f) (.lit (.bool false)) = .lit (.bool (cWin f))) (hf : IsB f) (hv : v = cWin f) : KMC B w := by
  subst hv
  have h4 := h2.put hf (.lit (.bool (cWin f)))
  refine ⟨_, ownsMap_size h1 h4, h4, fun g hg hh => ?_⟩
  by_cases e : hk g = hk f
  · obtain rfl := hk_inj hg hf e
    exact Maps.atKey_put_same h2.tidy.isMap (isKey_hk _) _ _
  · rw [Maps.atKey_put_other e]
    rw [Maps.has_put_other e] at hh
    exact h3 g hg hh
theorem plainElem_bool_inv {v : Value} {d : DataW Unit} {ps : List MemPlace} (h : plainElem Try.prog 4 v = some (d, ps)) : ∃ x, v = .bool x ∧ d = .lit (.bool x) := by
  unfold plainElem at h
  rw [Try.underlying4] at h
  cases v <;> simp at h
  exact ⟨_, rfl, h.1.symm⟩
end Go.Proofs.Ytdafpjapepfniaa
