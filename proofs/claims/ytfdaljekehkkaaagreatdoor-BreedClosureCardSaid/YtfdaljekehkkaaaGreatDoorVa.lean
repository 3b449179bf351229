/- Layer 3: plain words: lists of numbers, sets as numbers, sums of sets, least winning sets. -/
import Derived.Test.YtfdaljekehkkaaaGreatDoorProg
import Derived.Test.YtfdaljekehkkaaaGreatDoorKb
import Derived.WalkKit
import Derived.WalkSpells
import Derived.WalkLawsBesides
import Derived.Lib.Hide
import Derived.Deep.QuietTactic
import Derived.BigQuiet
import Derived.OneCell
import Derived.Laws.BitsAllLaws
import Derived.Lib.QuoteBits
namespace Go.Proofs.YtfdaljekehkkaaaGreatDoor
open Go Go.RowKit

/-- A call returned v and turned nothing. -/
def Only (v : Value) (w : World) (e : Ending) (w' : World) : Prop := e = .returned v ∧ w = w'
theorem Only.mk {v v' : Value} {w : World} (h : v' = v) : Only v w (.returned v') w := ⟨by rw [h], rfl⟩
theorem Only.ret {v : Value} {w w' : World} {e : Ending} (h : Only v w e w') : Ret v w e w' := by obtain ⟨rfl, rfl⟩ := h; exact ⟨rfl, Below.refl _ _⟩
theorem onlyE {P : Program} {f : FuncId} {args : Array Value} {w : World} {x : Ext w} {v : Value} (h : Calls P f args x.world (Only v x.world)) :
    Calls P f args x.world fun e w'' => e = .returned v ∧ ∃ y : Ext w, w'' = y.world := callE (h.mono fun _ _ k => k.ret)
/-- The i-th number. -/
def nth (xs : List Int) (i : Nat) : Int := xs.getD i 0
theorem nth_mem {xs : List Int} {i : Nat} (h : i < xs.length) : nth xs i ∈ xs := by
  unfold nth; rw [List.getD_eq_getElem?_getD, List.getElem?_eq_getElem h]; exact List.getElem_mem h
theorem mem_nth {xs : List Int} {x : Int} (h : x ∈ xs) : ∃ i, i < xs.length ∧ nth xs i = x := by
  obtain ⟨i, hi, rfl⟩ := List.mem_iff_getElem.1 h
  exact ⟨i, hi, by simp [nth, hi]⟩
/-- The slice at a holds the numbers xs. -/
def Ints (w : World) (a : Option Addr) (xs : List Int) : Prop :=
  xs.length = 0 ∨ ∃ b off, a = some ⟨b, off, none⟩ ∧ ∀ i, i < xs.length → w.cell? ⟨b, off + i, none⟩ = some (.int .i64 (nth xs i))
theorem Ints.next {w w' : World} {a : Option Addr} {xs : List Int} (h : Ints w a xs) (hb : Below w.heap.size w w') : Ints w' a xs := by
  rcases h with h | ⟨b, off, e, hc⟩
  · exact .inl h
  · exact .inr ⟨b, off, e, fun i hi => cellB hb (hc i hi)⟩
theorem ints_at {w : World} {a : Option Addr} {xs : List Int} (h : Ints w a xs) (hn : 0 < xs.length) :
    ∃ b off, a = some ⟨b, off, none⟩ ∧ ∀ i, i < xs.length → w.cell? ⟨b, off + i, none⟩ = some (.int .i64 (nth xs i)) := by
  rcases h with h | h
  · omega
  · exact h
theorem ext_nth {xs ys : List Int} (h : xs.length = ys.length) (hh : ∀ i, i < xs.length → nth xs i = nth ys i) : xs = ys := by
  apply List.ext_getElem h
  intro i h1 h2
  have := hh i h1
  simpa [nth, h1, h2] using this
/-- Block B holds these cells. -/
def Blk (W : World) (B : Nat) (t : TypeId) (cs : Array Value) : Prop := W.heap[B]? = some (.cells cs t (0, 0))
theorem Blk.lt {W : World} {B : Nat} {t : TypeId} {cs : Array Value} (h : Blk W B t cs) : B < W.heap.size := (Array.getElem?_eq_some_iff.1 h).1
theorem Blk.ext {W W' : World} {B : Nat} {t : TypeId} {cs : Array Value} (h : Blk W B t cs) (hb : Below W.heap.size W W') : Blk W' B t cs := (hb.block _ h.lt).trans h
theorem Blk.c {W : World} {B : Nat} {t : TypeId} {cs : Array Value} (h : Blk W B t cs) (i : Nat) {v : Value} (hv : cs[i]? = some v) : W.cell? ⟨B, i, none⟩ = some v := by unfold Blk at h; simp [World.cell?, h, hv]
theorem Blk.fr {W : World} {B : Nat} {t : TypeId} {cs : Array Value} (h : Blk W B t cs) (i : Nat) : W.frozen? ⟨B, i, none⟩ = false := by unfold Blk at h; simp [World.frozen?, h]
theorem Blk.new (W : World) (t : TypeId) (cs : Array Value) : Blk (W.alloc (.cells cs t)) W.heap.size t cs := heap_alloc_new W _
theorem Blk.alloc {W : World} {B : Nat} {t : TypeId} {cs : Array Value} (h : Blk W B t cs) (o : Obj) : Blk (W.alloc o) B t cs := h.ext (b1 W o)
theorem Blk.other {W : World} {B B' i : Nat} {t : TypeId} {cs : Array Value} (h : Blk W B t cs) (hne : B ≠ B') (u : Value) : Blk (W.setCell ⟨B', i, none⟩ u) B t cs := (Below.heap_setCell W ⟨B', i, none⟩ u B hne).trans h
/-- The list's cells, as a list. -/
def lI (xs : List Int) : List Value := xs.map (Value.int .i64)
theorem lI_length (xs : List Int) : (lI xs).length = xs.length := by simp [lI]
theorem lI_get {xs : List Int} {i : Nat} (h : i < xs.length) : (lI xs)[i]? = some (.int .i64 (nth xs i)) := by simp [lI, nth, h]
theorem own_ints {w : World} {base g n cap : Nat} {e : TypeId} {xs : List Int} (h : w.ownsRow base e 1 (.slice (some ⟨g, 0, none⟩) n cap) n (lI xs)) : xs.length = n ∧ ∀ i, i < n → w.cell? ⟨g, 0 + i, none⟩ = some (.int .i64 (nth xs i)) := by
  have hl : xs.length = n := by have := h.1; rw [lI_length] at this; omega
  exact ⟨hl, fun i hi => by rw [Nat.zero_add, h.cellAt i (by omega), lI_get (by omega)]⟩
/-- Two rows of the call's own, of elements of two types, lie in two blocks. -/
theorem own_apart {w : World} {base base' g n cap n' size size' : Nat} {e e' : TypeId} {v : Value} {xs ys : List Value} (h : w.ownsRow base e size (.slice (some ⟨g, 0, none⟩) n cap) n xs) (h' : w.ownsRow base' e' size' v n' ys) (he : e ≠ e') : v.ownBlock ≠ some g := by
  intro hv
  rcases h'.2 with ⟨rfl, _⟩ | ⟨g', cap', cur', rfl, _, hg', _⟩
  · simp [Value.ownBlock] at hv
  · simp [Value.ownBlock] at hv
    subst hv
    rcases h.2 with ⟨h1, _⟩ | ⟨g2, cap2, cur2, h1, _, hg2, _⟩
    · simp at h1
    · simp only [Value.slice.injEq, Option.some.injEq, Addr.mk.injEq, and_true, true_and] at h1
      obtain ⟨rfl, rfl⟩ := h1
      rw [hg'] at hg2
      simp only [Option.some.injEq, Obj.cells.injEq] at hg2
      exact he hg2.2.1.symm
theorem own_pos {w : World} {base n size : Nat} {e : TypeId} {v : Value} {xs : List Value} (h : w.ownsRow base e size v n xs) (hn : 0 < n) : ∃ g cap, v = .slice (some ⟨g, 0, none⟩) n cap := by
  rcases h.2 with ⟨_, h2⟩ | ⟨g, cap, cur, hv, _⟩
  · omega
  · exact ⟨g, cap, hv⟩
/-- The cell of a block that has just been laid. -/
theorem cell_one_new (w : World) (a : Int) (t : TypeId) : ∀ j u, [Value.int .i64 a][j]? = some u → (w.alloc (.cells #[.int .i64 a] t)).cell? (Addr.add ⟨w.heap.size, 0, none⟩ j) = some u := by
  intro j u hj
  have hl : j < 1 := (List.getElem?_eq_some_iff.1 hj).1
  have ha : Addr.add ⟨w.heap.size, 0, none⟩ j = ⟨w.heap.size, j, none⟩ := by first | (simp [Addr.add]; done) | (simp [Addr.add]; omega)
  rw [ha]
  exact (Blk.new w t _).c j (by rw [← hj]; simp)
theorem own_intsA {w : World} {base n : Nat} {e : TypeId} {v : Value} {xs : List Int} (h : w.ownsRow base e 1 v n (lI xs)) (hn : xs.length = n) : ∃ a c, v = .slice a n c ∧ n ≤ c ∧ Ints w a xs := by
  have h0 := h
  rcases h.2 with ⟨rfl, h2⟩ | ⟨g, cap, cur, rfl, hg, hh, hcap, r⟩
  · exact ⟨none, 0, by rw [h2], by omega, .inl (by omega)⟩
  · refine ⟨some ⟨g, 0, none⟩, cap, rfl, hcap, .inr ⟨g, 0, rfl, fun i hi => ?_⟩⟩
    exact (own_ints h0).2 i (by omega)
theorem lI_snoc (ys : List Int) (y : Int) : lI (ys ++ [y]) = lI ys ++ [.int .i64 y] := by simp [lI]
theorem i64_and_nat (a b : Nat) (ha : a < 9223372036854775808) (hb : b < 9223372036854775808) : bits .and .i64 (a : Int) (b : Int) = ((a &&& b : Nat) : Int) := by
  have hx : a &&& b < 2 ^ 63 := Nat.and_lt_two_pow _ (by omega)
  show IntKind.i64.wrap ((BitVec.ofInt 64 (a : Int) &&& BitVec.ofInt 64 (b : Int)).toNat : Int) = _
  rw [BitVec.toNat_and, ofInt_u64 a (by omega), ofInt_u64 b (by omega), IntKind.wrap_i64]
  omega
theorem i64_or_nat (a b : Nat) (ha : a < 9223372036854775808) (hb : b < 9223372036854775808) : bits .or .i64 (a : Int) (b : Int) = ((a ||| b : Nat) : Int) := by
  have hx : a ||| b < 2 ^ 63 := Nat.or_lt_two_pow (by omega) (by omega)
  show IntKind.i64.wrap ((BitVec.ofInt 64 (a : Int) ||| BitVec.ofInt 64 (b : Int)).toNat : Int) = _
  rw [BitVec.toNat_or, ofInt_u64 a (by omega), ofInt_u64 b (by omega), IntKind.wrap_i64]
  omega
/-- 2 to the power of i. -/
def pw (i : Nat) : Nat := 2 ^ i
theorem pw_le {i : Nat} (h : i < 40) : pw i < 1099511627776 := Nat.pow_lt_pow_of_lt (a := 2) (by omega) h
theorem pw_int (i : Nat) : (2 : Int) ^ i = ((pw i : Nat) : Int) := by rw [pw, Int.natCast_pow]; rfl
theorem wrap_pw {i : Nat} (h : i < 40) : IntKind.i64.wrap ((pw i : Nat) : Int) = ((pw i : Nat) : Int) := by
  have := pw_le h
  rw [IntKind.wrap_i64]
  omega
theorem run_shl_one (i : Nat) (h : i < 40) (w : World) : (binOp .shl 3 (.int .i64 1) (.int .i64 (i : Int))).run Tryz.prog w = .ok (.int .i64 (pw i : Nat)) w := by
  go_simp
  rw [pw_int, wrap_pw h]
/-- Drover i's digit in a set. -/
def bt (s i : Nat) : Nat := s / pw i % 2
theorem pw_succ (i : Nat) : pw (i + 1) = 2 * pw i := by unfold pw; rw [Nat.pow_succ]; omega
theorem pw_pos (i : Nat) : 0 < pw i := Nat.pow_pos (by omega)
theorem pw_lt {i k : Nat} (h : i < k) : pw i < pw k := Nat.pow_lt_pow_of_lt (by omega) h
theorem pw_mono {i k : Nat} (h : i ≤ k) : pw i ≤ pw k := Nat.pow_le_pow_right (by omega) h
theorem bt_test (s i : Nat) : bt s i = if s.testBit i then 1 else 0 := by
  rw [Nat.testBit_eq_decide_div_mod_eq]
  unfold bt pw
  have : s / 2 ^ i % 2 < 2 := Nat.mod_lt _ (by omega)
  by_cases h : s / 2 ^ i % 2 = 1 <;> simp [h]; omega
theorem bt_one {s i : Nat} : bt s i = 1 ↔ s.testBit i = true := by rw [bt_test]; split <;> simp_all
theorem bt_zero {s i : Nat} : bt s i = 0 ↔ s.testBit i = false := by rw [bt_test]; split <;> simp_all
theorem bt_lt (s i : Nat) : bt s i < 2 := Nat.mod_lt _ (by omega)
/-- The weights of the first k drovers in a set. -/
def wsum (ws : List Int) (s : Nat) : Nat → Int
  | 0 => 0
  | k + 1 => wsum ws s k + nth ws k * (bt s k : Int)
/-- The sums of all sets. -/
def sumsL (ws : List Int) : List Int := ws.foldl (fun out w => out ++ out.map (· + w)) [0]
theorem sumsL_snoc (ws : List Int) (w : Int) : sumsL (ws ++ [w]) = sumsL ws ++ (sumsL ws).map (· + w) := by simp [sumsL]
theorem take_snocI (xs : List Int) (k : Nat) (h : k < xs.length) : xs.take (k + 1) = xs.take k ++ [nth xs k] := by
  rw [List.take_succ_eq_append_getElem h]; simp [nth, h]
theorem sumsL_take (ws : List Int) (k : Nat) (h : k < ws.length) : sumsL (ws.take (k + 1)) = sumsL (ws.take k) ++ (sumsL (ws.take k)).map (· + nth ws k) := by
  rw [take_snocI _ _ h, sumsL_snoc]
theorem sumsL_len (ws : List Int) : ∀ k, k ≤ ws.length → (sumsL (ws.take k)).length = pw k := by
  intro k
  induction k with
  | zero => intro _; simp [sumsL, pw]
  | succ k ih =>
    intro h
    rw [sumsL_take _ _ (by omega), List.length_append, List.length_map, ih (by omega), pw_succ]; omega
theorem nth_append_l {xs ys : List Int} {i : Nat} (h : i < xs.length) : nth (xs ++ ys) i = nth xs i := by
  simp [nth, List.getElem?_append_left h]
theorem nth_append_r {xs ys : List Int} {i : Nat} (h : xs.length ≤ i) : nth (xs ++ ys) i = nth ys (i - xs.length) := by
  simp [nth, List.getElem?_append_right h]
theorem nth_map {xs : List Int} {w : Int} {i : Nat} (h : i < xs.length) : nth (xs.map (· + w)) i = nth xs i + w := by
  simp [nth, h]
theorem bt_high {s k : Nat} (h : s < pw k) : bt s k = 0 := by unfold bt; rw [Nat.div_eq_of_lt h]
theorem bt_top {s k : Nat} (h1 : pw k ≤ s) (h2 : s < pw (k + 1)) : bt s k = 1 := by
  rw [pw_succ] at h2
  unfold bt
  have : s / pw k = 1 := by
    have hp := pw_pos k
    exact Nat.div_eq_of_lt_le (by omega) (by omega)
  rw [this]
theorem bt_sub {s k i : Nat} (h1 : pw k ≤ s) (hi : i < k) : bt (s - pw k) i = bt s i := by
  obtain ⟨d, rfl⟩ : ∃ d, k = i + 1 + d := ⟨k - i - 1, by omega⟩
  have e : pw (i + 1 + d) = pw i * (2 * pw d) := by unfold pw; rw [Nat.pow_add, Nat.pow_succ]; grind
  obtain ⟨t, rfl⟩ : ∃ t, s = t + pw (i + 1 + d) := ⟨s - pw (i + 1 + d), by omega⟩
  rw [Nat.add_sub_cancel]
  unfold bt
  rw [e, Nat.add_mul_div_left _ _ (pw_pos i)]
  omega
theorem wsum_sub {ws : List Int} {s k : Nat} (h1 : pw k ≤ s) : ∀ j, j ≤ k → wsum ws (s - pw k) j = wsum ws s j := by
  intro j
  induction j with
  | zero => intro _; rfl
  | succ j ih => intro h; rw [wsum, wsum, ih (by omega), bt_sub h1 (by omega)]
theorem sumsL_nth (ws : List Int) : ∀ k, k ≤ ws.length → ∀ s, s < pw k → nth (sumsL (ws.take k)) s = wsum ws s k := by
  intro k
  induction k with
  | zero => intro _ s h; have : s = 0 := by simp [pw] at h; omega
            subst this; rfl
  | succ k ih =>
    intro h s hs
    have hl := sumsL_len ws k (by omega)
    rw [sumsL_take _ _ (by omega), wsum]
    by_cases hlt : s < pw k
    · rw [nth_append_l (by omega), ih (by omega) s hlt, bt_high hlt]; simp
    · have hs' := hs
      rw [pw_succ] at hs
      rw [nth_append_r (by omega), hl, nth_map (by omega), ih (by omega) _ (by omega), wsum_sub (by omega) k (Nat.le_refl _), bt_top (by omega) hs']; simp
/-- Is the first set a part of the second one? -/
def inB (o s : Nat) : Bool := s &&& o == o
theorem inB_iff {o s : Nat} : inB o s = true ↔ ∀ i, o.testBit i = true → s.testBit i = true := by
  unfold inB
  rw [beq_iff_eq]
  constructor
  · intro h i hi
    have := congrArg (·.testBit i) h
    simp [hi] at this; exact this
  · intro h
    apply Nat.eq_of_testBit_eq
    intro i
    rw [Nat.testBit_and]
    cases ho : o.testBit i
    · simp
    · simp [h i ho]
theorem inB_refl (s : Nat) : inB s s = true := inB_iff.2 fun _ h => h
theorem inB_trans {a b c : Nat} (h : inB a b = true) (k : inB b c = true) : inB a c = true := inB_iff.2 fun i hi => inB_iff.1 k i (inB_iff.1 h i hi)
theorem inB_le {o s : Nat} (h : inB o s = true) : o ≤ s := by
  unfold inB at h; rw [beq_iff_eq] at h
  rw [← h]; exact Nat.and_le_left
theorem inB_anti {a b : Nat} (h : inB a b = true) (k : inB b a = true) : a = b := Nat.le_antisymm (inB_le h) (inB_le k)
theorem add_test {t i : Nat} (h : t.testBit i = false) (j : Nat) : (t + pw i).testBit j = (t.testBit j || decide (i = j)) := by
  rw [Nat.add_comm]
  unfold pw
  rcases Nat.lt_trichotomy i j with hj | rfl | hj
  · obtain ⟨d, rfl⟩ : ∃ d, j = d + (i + 1) := ⟨j - i - 1, by omega⟩
    rw [← Nat.testBit_div_two_pow, ← Nat.testBit_div_two_pow]
    have e : (2 ^ i + t) / 2 ^ (i + 1) = t / 2 ^ (i + 1) := by
      rw [Nat.pow_succ, ← Nat.div_div_eq_div_mul, ← Nat.div_div_eq_div_mul, Nat.add_div_left _ (Nat.pow_pos (by omega))]
      rw [Nat.testBit_eq_decide_div_mod_eq] at h
      have h := of_decide_eq_false h
      omega
    rw [e]
    have : ¬ i = d + (i + 1) := by omega
    simp [this]
  · rw [Nat.testBit_two_pow_add_eq, h]; simp
  · rw [Nat.testBit_two_pow_add_gt hj]
    have : ¬ i = j := by omega
    simp [this]
/-- A set without drover i. -/
theorem sub_test {s i : Nat} (h : s.testBit i = true) : pw i ≤ s ∧ ∀ j, (s - pw i).testBit j = (s.testBit j && !(decide (i = j))) := by
  have hle : pw i ≤ s := Nat.ge_two_pow_of_testBit h
  refine ⟨hle, fun j => ?_⟩
  obtain ⟨t, rfl⟩ : ∃ t, s = t + pw i := ⟨s - pw i, by omega⟩
  rw [Nat.add_sub_cancel]
  have ht : t.testBit i = false := by
    rw [Nat.add_comm, pw, Nat.testBit_two_pow_add_eq] at h
    simpa using h
  rw [add_test ht]
  by_cases hj : i = j
  · subst hj; simp [ht]
  · simp [hj]
theorem or_eq_add {t i : Nat} (h : t.testBit i = false) : t ||| pw i = t + pw i := by
  apply Nat.eq_of_testBit_eq
  intro j
  rw [add_test h, Nat.testBit_or, pw, Nat.testBit_two_pow]
theorem or_eq_self {t i : Nat} (h : t.testBit i = true) : t ||| pw i = t := by
  apply Nat.eq_of_testBit_eq
  intro j
  rw [Nat.testBit_or, pw, Nat.testBit_two_pow]
  by_cases hj : i = j
  · subst hj; simp [h]
  · simp [hj]
theorem test_lt {s n i : Nat} (h : s < pw n) (hi : s.testBit i = true) : i < n := by
  by_cases hn : i < n
  · exact hn
  · have := Nat.ge_two_pow_of_testBit hi
    have := pw_mono (show n ≤ i by omega)
    unfold pw at *
    omega
theorem add_lt {t n i : Nat} (h : t < pw n) (hi : i < n) (hb : t.testBit i = false) : t + pw i < pw n := by
  rw [← or_eq_add hb]
  exact Nat.or_lt_two_pow h (Nat.pow_lt_pow_of_lt (by omega) hi)
theorem inB_sub {s i : Nat} (h : s.testBit i = true) : inB (s - pw i) s = true := inB_iff.2 fun j hj => by
  rw [(sub_test h).2] at hj
  simp at hj
  exact hj.1
theorem inB_add {s i : Nat} (h : s.testBit i = false) : inB s (s + pw i) = true := inB_iff.2 fun j hj => by rw [add_test h, hj]; rfl
/-- A part of a set that is not the whole lacks a drover. -/
theorem inB_drop {o s : Nat} (h : inB o s = true) (hne : o ≠ s) : ∃ i, s.testBit i = true ∧ inB o (s - pw i) = true := by
  apply Classical.byContradiction
  intro hno
  apply hne
  apply Nat.eq_of_testBit_eq
  intro i
  cases hs : s.testBit i
  · cases ho : o.testBit i
    · rfl
    · rw [inB_iff.1 h i ho] at hs; cases hs
  · cases ho : o.testBit i
    · exfalso
      exact hno ⟨i, hs, inB_iff.2 fun j hj => by
        rw [(sub_test hs).2, inB_iff.1 h j hj]
        by_cases hij : i = j
        · subst hij; rw [ho] at hj; cases hj
        · simp [hij]⟩
    · rfl

/-- Whoever wins with a set wins with more. -/
structure Game (n : Nat) (f : Nat → Bool) : Prop where
  zero : f 0 = false
  full : f (pw n - 1) = true
  mono : ∀ a b, a < pw n → b < pw n → inB a b = true → f a = true → f b = true
/-- The least winning sets, as they are found one after another. -/
def leastL (f : Nat → Bool) : Nat → List Nat
  | 0 => []
  | k + 1 => if f k && !((leastL f k).any fun o => inB o k) then leastL f k ++ [k] else leastL f k
/-- Does a set win, and lose without any one of its drovers? -/
def isLeast (n : Nat) (f : Nat → Bool) (s : Nat) : Bool := f s && (List.range n).all fun i => !(s.testBit i) || !(f (s - pw i))
theorem isLeast_iff {n : Nat} {f : Nat → Bool} {s : Nat} : isLeast n f s = true ↔ f s = true ∧ ∀ i, i < n → s.testBit i = true → f (s - pw i) = false := by
  unfold isLeast
  rw [Bool.and_eq_true, List.all_eq_true]
  constructor
  · rintro ⟨h1, h2⟩
    refine ⟨h1, fun i hi hb => ?_⟩
    have := h2 i (List.mem_range.2 hi)
    rw [hb] at this
    simpa using this
  · rintro ⟨h1, h2⟩
    refine ⟨h1, fun i hi => ?_⟩
    cases hb : s.testBit i
    · rfl
    · rw [h2 i (List.mem_range.1 hi) hb]; rfl
/-- Within a winning set there is a least one. -/
theorem least_in {n : Nat} {f : Nat → Bool} : ∀ s, s < pw n → f s = true → ∃ o, o ≤ s ∧ inB o s = true ∧ isLeast n f o = true := by
  intro s
  induction s using Nat.strongRecOn with
  | _ s ih =>
    intro hs hf
    cases hl : isLeast n f s
    · have : ¬ ∀ i, i < n → s.testBit i = true → f (s - pw i) = false := fun h => by
        have := isLeast_iff.2 ⟨hf, h⟩
        rw [hl] at this; cases this
      obtain ⟨i, hi, hb, hw⟩ : ∃ i, i < n ∧ s.testBit i = true ∧ f (s - pw i) = true := by
        apply Classical.byContradiction
        intro hno
        apply this
        intro i hi hb
        cases hw : f (s - pw i)
        · rfl
        · exact absurd ⟨i, hi, hb, hw⟩ hno
      have hp := pw_pos i
      have hle := (sub_test hb).1
      obtain ⟨o, h1, h2, h3⟩ := ih (s - pw i) (by omega) (by omega) hw
      exact ⟨o, by omega, inB_trans h2 (inB_sub hb), h3⟩
    · exact ⟨s, Nat.le_refl _, inB_refl s, hl⟩
theorem leastL_filter {n : Nat} {f : Nat → Bool} (g : Game n f) : ∀ k, k ≤ pw n → leastL f k = (List.range k).filter (isLeast n f) := by
  intro k
  induction k with
  | zero => intro _; rfl
  | succ k ih =>
    intro h
    rw [leastL, ih (by omega), List.range_succ, List.filter_append]
    have key : (f k && !(((List.range k).filter (isLeast n f)).any fun o => inB o k)) = isLeast n f k := by
      rw [Bool.eq_iff_iff, Bool.and_eq_true, Bool.not_eq_true', List.any_eq_false]
      constructor
      · rintro ⟨h1, h2⟩
        refine isLeast_iff.2 ⟨h1, fun i hi hb => ?_⟩
        cases hw : f (k - pw i)
        · rfl
        · have hp := pw_pos i
          have hle := (sub_test hb).1
          obtain ⟨o, e1, e2, e3⟩ := least_in (n := n) (k - pw i) (by omega) hw
          exact absurd (inB_trans e2 (inB_sub hb)) (h2 o (List.mem_filter.2 ⟨List.mem_range.2 (by omega), e3⟩))
      · intro hk
        obtain ⟨h1, h2⟩ := isLeast_iff.1 hk
        refine ⟨h1, fun o ho hin => ?_⟩
        obtain ⟨e1, e2⟩ := List.mem_filter.1 ho
        have e1 := List.mem_range.1 e1
        obtain ⟨i, hb, hd⟩ := inB_drop hin (by omega)
        have hle := (sub_test hb).1
        have := g.mono o (k - pw i) (by omega) (by omega) hd (isLeast_iff.1 e2).1
        rw [h2 i (test_lt (by omega) hb) hb] at this
        cases this
    rw [key]
    cases hk : isLeast n f k <;> simp [hk]

theorem infoInt : (Tryz.prog.info? 3).map (fun i => (i.zero, i.size, i.bytes)) = some (some (.int .i64 0), 1, 8) := by kernel_rfl
theorem infoBool : (Tryz.prog.info? 4).map (fun i => (i.zero, i.size, i.bytes)) = some (some (.bool false), 1, 1) := by kernel_rfl
end Go.Proofs.YtfdaljekehkkaaaGreatDoor
