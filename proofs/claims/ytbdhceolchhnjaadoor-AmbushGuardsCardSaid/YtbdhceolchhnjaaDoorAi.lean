/- Layer 4, by the program: the map of what is known of the turns; calls that turn this map alone. -/
import Derived.Test.YtbdhceolchhnjaaDoorAh
import Derived.Maps.OwnOps
import Derived.Maps.OwnSet
import Derived.Maps.Views
import Derived.DeepKeys4
namespace Go.Proofs.YtbdhceolchhnjaaDoor
open Go Go.RowKit

/-- Of what lay in w nothing but block B has turned. -/
structure Keep (B : Nat) (w w' : World) : Prop where
  os : w'.os = w.os
  tape : w'.tape = w.tape
  output : w'.output = w.output
  size : w.heap.size ≤ w'.heap.size
  block : ∀ k, k < w.heap.size → k ≠ B → w'.heap[k]? = w.heap[k]?
theorem Keep.refl (B : Nat) (w : World) : Keep B w w := ⟨rfl, rfl, rfl, Nat.le_refl _, fun _ _ _ => rfl⟩
theorem Keep.trans {B : Nat} {a b c : World} (h : Keep B a b) (k : Keep B b c) : Keep B a c :=
  ⟨k.os.trans h.os, k.tape.trans h.tape, k.output.trans h.output, Nat.le_trans h.size k.size, fun i hi hB => (k.block i (Nat.lt_of_lt_of_le hi h.size) hB).trans (h.block i hi hB)⟩
theorem Keep.of {B : Nat} {w w' : World} (h : Below w.heap.size w w') : Keep B w w' := ⟨h.os, h.tape, h.output, h.size, fun k hk _ => h.block k hk⟩
theorem Keep.below {B : Nat} {w0 w w' : World} (hb : Below w0.heap.size w0 w) (hB : w0.heap.size ≤ B) (h : Keep B w w') : Below w0.heap.size w0 w' :=
  hb.trans ⟨h.os, h.tape, h.output, h.size, fun k hk => h.block k (Nat.lt_of_lt_of_le hk hb.size) (by omega)⟩
theorem Keep.cell {B : Nat} {w w' : World} (h : Keep B w w') {p : Addr} {v : Value} (hp : p.block ≠ B) (hc : w.cell? p = some v) : w'.cell? p = some v :=
  (World.cell?_of_block (w := w) (h.block p.block (block_lt_of_cell hc) hp)).trans hc
theorem Keep.blk {B : Nat} {w w' : World} (h : Keep B w w') {k : Nat} {t : TypeId} {cs : Array Value} (hk : k ≠ B) (hc : Blk w k t cs) : Blk w' k t cs := (h.block k hc.lt hk).trans hc
theorem Keep.grown {B : Nat} {w w' : World} (h : w.grownBy w' (some B)) : Keep B w w' := ⟨h.os, h.tape, h.output, h.size, fun k hk hB => h.block k hk (by simp; omega)⟩

theorem laidP : laidOutB Tryd.prog = true := by kernel_rfl
theorem wideTn : (match Tryd.prog.underlying 65 with | some (.array _ _) | some (.struct _) => true | _ => false) = true := by rw [Tryd.underlying65]
theorem rowTn : (65 : TypeId) < Tryd.prog.types.size := of_decide_eq_true (by kernel_rfl)
theorem deepTn : Tryd.prog.keyTypeAt 3 65 = true := by kernel_rfl
set_option maxRecDepth 100000 in
theorem lawTn : Maps.Keyed Tryd.prog 65 := Maps.Keyed.of_law (deep_law_laid laidP (m := 3) (show 3 + 1 ≤ 10000 from of_decide_eq_true rfl) rowTn deepTn wideTn)
/-- What a turn reads as, as a key. -/
def tk (x y s : Nat) : Lit := .string (keyBytes [.int .i64 (x : Nat), .int .i64 (y : Nat), .int .i64 (s : Nat)])
theorem wf_nat {i : Nat} (h : i < 65536) : (Lit.int .i64 (i : Int)).wf = true := WalkArith.wf_i64 (by omega)
set_option maxRecDepth 100000 in
theorem keyOf_tn {x y s : Nat} (hx : x < 65536) (hy : y < 65536) (hs : s < 65536) : keyOf Tryd.prog 65 (tV x y s) = some (tk x y s) := by
  have hkt : Tryd.prog.keyType 65 = true := by kernel_rfl
  have hcell : Tryd.prog.cellsOf 65 = 3 := by kernel_rfl
  obtain ⟨m, hm⟩ : ∃ m, Tryd.prog.types.size = m + 1 + 1 := ⟨Tryd.prog.types.size - 2, by kernel_rfl⟩
  have c1 : Tryd.prog.cellsOf 3 = 1 := by kernel_rfl
  have c2 : Tryd.prog.cellsOf 62 = 2 := by kernel_rfl
  have c3 : Tryd.prog.cellsOf 63 = 1 := by kernel_rfl
  have h1 := wf_nat hx
  have h2 := wf_nat hy
  have h3 := wf_nat hs
  unfold keyOf
  simp only [Tryd.underlying65]
  rw [if_pos (by simp [hkt, Value.formed, Tryd.underlying65, hcell]), hm]
  unfold Program.keyLits
  simp only [Tryd.underlying65, Value.cells]
  rw [if_pos (by rw [hcell]; exact ⟨rfl, by simp⟩)]
  simp [Program.keyLits, Tryd.underlying3, Tryd.underlying62, Tryd.underlying63, c1, c2, c3, h1, h2, h3, tk, show List.range 2 = [0, 1] from rfl]
theorem tk_inj {x y s a b t : Nat} (hx : x < 65536) (hy : y < 65536) (hs : s < 65536) (ha : a < 65536) (hb : b < 65536) (ht : t < 65536) (h : tk x y s = tk a b t) : x = a ∧ y = b ∧ s = t := by
  have h1 := keyOf_tn hx hy hs
  rw [h] at h1
  have := lawTn.inj h1 (keyOf_tn ha hb ht)
  simp only [Value.agg.injEq, Array.mk.injEq, List.cons.injEq, Value.int.injEq, true_and, and_true] at this
  omega
/-- A list of different numbers below N has at most N of them. -/
theorem nodup_bound : ∀ (N : Nat) (l : List Nat), l.Nodup → (∀ x ∈ l, x < N) → l.length ≤ N := by
  intro N
  induction N with
  | zero =>
    intro l _ h
    cases l with
    | nil => exact Nat.le_refl _
    | cons x l => have := h x (by simp); omega
  | succ N ih =>
    intro l hl h
    have h1 := ih (l.erase N) (hl.erase N) (fun x hx => by
      have h2 := h x (List.mem_of_mem_erase hx)
      have h3 : x ≠ N := fun e => by
        subst e
        exact (List.Nodup.not_mem_erase hl) hx
      omega)
    have h2 := List.length_erase_le (a := N) (l := l)
    by_cases hm : N ∈ l
    · rw [List.length_erase_of_mem hm] at h1; omega
    · rw [List.erase_of_not_mem hm] at h1; omega
/-- A key of a turn of few spots. -/
def IsTk (k : Lit) : Prop := ∃ x y s, x < 512 ∧ y < 512 ∧ s < 2 ∧ k = tk x y s
theorem isKey_tk (x y s : Nat) : WideAt.IsKeyLit (tk x y s) := trivial
/-- All keys are keys of turns, each once. -/
def KeysTk (D : DataW Unit) : Prop := ∃ es, D = .map es ∧ es.Pairwise (fun p q => p.1 ≠ q.1) ∧ ∀ p ∈ es, IsTk p.1
theorem KeysTk.tidy {D : DataW Unit} (h : KeysTk D) : Maps.Tidy D := let ⟨es, e, h, _⟩ := h; ⟨es, e, h⟩
theorem KeysTk.size {D : DataW Unit} (h : KeysTk D) : Maps.size D ≤ 524288 := by
  obtain ⟨es, rfl, hp, hk⟩ := h
  rw [Maps.size_eq]
  have hc : ∀ k : Lit, ∃ n : Nat, IsTk k → ∃ x y s, x < 512 ∧ y < 512 ∧ s < 2 ∧ k = tk x y s ∧ n = (x * 512 + y) * 2 + s := fun k => by
    by_cases h : IsTk k
    · obtain ⟨x, y, s, h1, h2, h3, h4⟩ := h
      exact ⟨(x * 512 + y) * 2 + s, fun _ => ⟨x, y, s, h1, h2, h3, h4, rfl⟩⟩
    · exact ⟨0, fun h' => absurd h' h⟩
  have hc2 : ∃ code : Lit → Nat, ∀ k, IsTk k → ∃ x y s, x < 512 ∧ y < 512 ∧ s < 2 ∧ k = tk x y s ∧ code k = (x * 512 + y) * 2 + s := ⟨fun k => (hc k).choose, fun k => (hc k).choose_spec⟩
  obtain ⟨code, hcode⟩ := hc2
  have h1 : (es.map fun p => code p.1).Nodup := by
    unfold List.Nodup
    rw [List.pairwise_map]
    refine List.Pairwise.imp_of_mem (fun {p q} hp' hq' hne e => hne ?_) hp
    obtain ⟨x, y, s, a1, a2, a3, a4, a5⟩ := hcode _ (hk p hp')
    obtain ⟨x', y', s', b1, b2, b3, b4, b5⟩ := hcode _ (hk q hq')
    rw [a5, b5] at e
    have e3 : s = s' := by omega
    have e2 : y = y' := by omega
    have e1 : x = x' := by omega
    rw [a4, b4, e1, e2, e3]
  have h2 := nodup_bound 524288 _ h1 (fun n hn => by
    obtain ⟨p, hp', rfl⟩ := List.mem_map.1 hn
    obtain ⟨x, y, s, a1, a2, a3, a4, a5⟩ := hcode _ (hk p hp')
    rw [a5]; omega)
  rwa [List.length_map] at h2
theorem insert_mem {x p : Lit × DataW Unit} : ∀ {l : List (Lit × DataW Unit)}, p ∈ DataW.insert x l → p = x ∨ p ∈ l := by
  intro l
  induction l with
  | nil => intro h; simp [DataW.insert] at h; exact .inl h
  | cons y r ih =>
    intro h
    unfold DataW.insert at h
    split at h
    · rcases List.mem_cons.1 h with h | h
      · exact .inl h
      · exact .inr h
    · rcases List.mem_cons.1 h with h | h
      · exact .inr (by rw [h]; simp)
      · rcases ih h with h | h
        · exact .inl h
        · exact .inr (List.mem_cons_of_mem _ h)
theorem KeysTk.put {D : DataW Unit} (h : KeysTk D) {x y s : Nat} (hx : x < 512) (hy : y < 512) (hs : s < 2) (d : DataW Unit) : KeysTk (D.put (tk x y s) d) := by
  have ht := h.tidy.put (isKey_tk x y s) d
  obtain ⟨es, rfl, hp, hk⟩ := h
  obtain ⟨es', e, hp'⟩ := ht
  refine ⟨es', e, hp', fun p hpm => ?_⟩
  have e2 : (DataW.map es : DataW Unit).put (tk x y s) d = .map (DataW.insert (tk x y s, d) (es.filter fun p => !p.1.sameKey (tk x y s))) := rfl
  rw [e2] at e
  injection e with e
  rw [← e] at hpm
  rcases insert_mem hpm with h | h
  · rw [h]; exact ⟨x, y, s, hx, hy, hs, rfl⟩
  · exact hk p (List.mem_filter.1 h).1
/-- The side that a bool says. -/
def sd (b : Bool) : Nat := if b then 0 else 1
/-- Block B is a map of turns; of each that is there it tells who wins. -/
def KM (m : Nat) (R : List Int) (B : Nat) (w : World) : Prop :=
  ∃ D : DataW Unit, w.ownsMap Tryd.prog 65 (plainElem Tryd.prog 63) B 524288 D ∧ KeysTk D ∧
    ∀ x y s, x < 512 → y < 512 → s < 2 → Maps.has D (tk x y s) = true → D.atKey (tk x y s) (.lit (.int .i64 0)) = .lit (.int .i64 ((sd (win m R x y (s == 1)) : Nat) : Int))
theorem KM.lt {m : Nat} {R : List Int} {B : Nat} {w : World} (h : KM m R B w) : B < w.heap.size := by
  obtain ⟨D, h1, _, _⟩ := h
  exact h1.lt
theorem KM.next {m : Nat} {R : List Int} {B : Nat} {w w' : World} (h : KM m R B w) (hb : Below w.heap.size w w') : KM m R B w' := by
  obtain ⟨D, h1, h2, h3⟩ := h
  have hlt := h1.lt
  obtain ⟨es, clock, hh, F, hs, e⟩ := h1
  exact ⟨D, ⟨es, clock, (hb.block B hlt).trans hh, F, hs, e⟩, h2, h3⟩
theorem KM.made (m : Nat) (R : List Int) (w : World) : KM m R w.heap.size (w.alloc (.map #[] 0)) :=
  ⟨.map [], (World.ownsMap_made _ _ _ _).mono (by omega), ⟨[], rfl, List.Pairwise.nil, fun p hp => by cases hp⟩, fun x y s _ _ _ h => by rw [Maps.has_eq] at h; simp at h⟩
/-- The bound on the entries holds whatever was put in. -/
theorem ownsMap_size {w : World} {B n : Nat} {D : DataW Unit} {k : TypeId} {e : Value → Option (DataW Unit × List MemPlace)} (h : w.ownsMap Tryd.prog k e B n D) (hk : KeysTk D) : w.ownsMap Tryd.prog k e B 524288 D := by
  obtain ⟨es, clock, hh, F, hs, hD⟩ := h
  refine ⟨es, clock, hh, F, ?_, hD⟩
  have h1 := hk.size
  rw [hD, Maps.size_eq, length_sorted] at h1
  simpa using h1
theorem KM.put {m : Nat} {R : List Int} {B n : Nat} {w : World} {D : DataW Unit} {k : Lit} {v : Int} (h1 : w.ownsMap Tryd.prog 65 (plainElem Tryd.prog 63) B n (D.put k (.lit (.int .i64 v)))) (h2 : KeysTk D)
    (h3 : ∀ x y s, x < 512 → y < 512 → s < 2 → Maps.has D (tk x y s) = true → D.atKey (tk x y s) (.lit (.int .i64 0)) = .lit (.int .i64 ((sd (win m R x y (s == 1)) : Nat) : Int)))
    {x y s : Nat} (hx : x < 512) (hy : y < 512) (hs : s < 2) (hk : k = tk x y s) (hv : v = ((sd (win m R x y (s == 1)) : Nat) : Int)) : KM m R B w := by
  subst hk hv
  have h4 := h2.put hx hy hs (.lit (.int .i64 ((sd (win m R x y (s == 1)) : Nat) : Int)))
  refine ⟨_, ownsMap_size h1 h4, h4, fun a b t ha hb ht hh => ?_⟩
  by_cases e : tk a b t = tk x y s
  · obtain ⟨rfl, rfl, rfl⟩ := tk_inj (by omega) (by omega) (by omega) (by omega) (by omega) (by omega) e
    exact Maps.atKey_put_same h2.tidy.isMap (isKey_tk _ _ _) _ _
  · rw [Maps.atKey_put_other e]
    rw [Maps.has_put_other e] at hh
    exact h3 a b t ha hb ht hh
end Go.Proofs.YtbdhceolchhnjaaDoor
