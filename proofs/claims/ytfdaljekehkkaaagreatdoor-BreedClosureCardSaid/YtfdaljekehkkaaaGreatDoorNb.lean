/- Layer 5: lists of triples that are copied; few. -/
import Derived.Test.YtfdaljekehkkaaaGreatDoorJa
import Derived.Test.YtfdaljekehkkaaaGreatDoorGf
import Derived.Test.YtfdaljekehkkaaaGreatDoorEd
import Derived.Laws.AppendOwnNone
namespace Go.Proofs.YtfdaljekehkkaaaGreatDoor
open Go Go.RowKit

theorem infoTrip : (Tryz.prog.info? 36).map (fun i => (i.zero, i.size, i.bytes)) = some (some (.agg #[.int .i64 0, .int .i64 0, .int .i64 0]), 3, 24) := by kernel_rfl
/-- The cells of triples. -/
def cT (L : List T3) : List Value := L.flatMap fun t => [.int .i64 t.1, .int .i64 t.2.1, .int .i64 t.2.2]
theorem cT_length (L : List T3) : (cT L).length = L.length * 3 := by
  induction L with
  | nil => rfl
  | cons t L ih =>
    show ([_, _, _] ++ cT L).length = _
    rw [List.length_append, ih, List.length_cons]
    simp only [List.length_cons, List.length_nil]
    omega
theorem cT_append (L M : List T3) : cT (L ++ M) = cT L ++ cT M := by simp [cT]
theorem cT_one (L : List T3) : ∀ u ∈ cT L, u.oneCell' = true := fun u hu => by
  unfold cT at hu
  rw [List.mem_flatMap] at hu
  obtain ⟨t, _, h⟩ := hu
  simp only [List.mem_cons, List.not_mem_nil, or_false] at h
  rcases h with rfl | rfl | rfl <;> rfl
theorem cT_get : ∀ (L : List T3) (i : Nat), i < L.length → (cT L)[i * 3]? = some (.int .i64 (tth L i).1) ∧ (cT L)[i * 3 + 1]? = some (.int .i64 (tth L i).2.1) ∧ (cT L)[i * 3 + 2]? = some (.int .i64 (tth L i).2.2) := by
  intro L
  induction L with
  | nil => intro i h; simp at h
  | cons t L ih =>
    intro i h
    have e : cT (t :: L) = .int .i64 t.1 :: .int .i64 t.2.1 :: .int .i64 t.2.2 :: cT L := rfl
    cases i with
    | zero => rw [e]; exact ⟨rfl, rfl, rfl⟩
    | succ i =>
      have h2 : i < L.length := by simpa using h
      have e1 : (i + 1) * 3 = i * 3 + 1 + 1 + 1 := by omega
      rw [e, e1]
      have et : tth (t :: L) (i + 1) = tth L i := by simp [tth]
      rw [et]
      exact ih i h2
theorem own_tripsA {w : World} {base n : Nat} {v : Value} {L : List T3} (h : w.ownsRow base 36 3 v n (cT L)) (hn : L.length = n) : ∃ a c, v = .slice a n c ∧ n ≤ c ∧ Trips w a L ∧ (a = none → c = 0) := by
  have hh := h
  rcases h.2 with ⟨rfl, h0⟩ | ⟨g, cap, cur, rfl, h1, h2, h3, _⟩
  · subst h0
    exact ⟨none, 0, rfl, Nat.le_refl _, .inl (by omega), fun _ => rfl⟩
  · refine ⟨some ⟨g, 0, none⟩, cap, rfl, h3, .inr ⟨g, 0, rfl, fun i hi => ?_⟩, fun h => by cases h⟩
    obtain ⟨c0, c1, c2⟩ := cT_get L i hi
    have hc := hh.cells (g := g) rfl
    have a0 := hc _ _ c0
    have a1 := hc _ _ c1
    have a2 := hc _ _ c2
    have ha : ∀ j, Addr.add ⟨g, 0, none⟩ j = ⟨g, 0 + j, none⟩ := fun j => by rw [Nat.zero_add]; unfold Addr.add; split <;> simp_all
    rw [ha] at a0 a1 a2
    exact ⟨a0, by rw [Nat.add_assoc]; exact a1, by rw [Nat.add_assoc]; exact a2⟩
/-- 'append(own, l...)'. -/
theorem wpList_copyT {ops : Array Oper} {rest : List Oper} {o : Oper} {a : Act} {Q : Exit → Act → World → Prop} {w : World} (hgd : o.guard = none) (s x : Operand)
    (ho : o.op = .call { callee := .builtin .append, args := #[s, x], argTypes := #[22, 22] })
    (base : Nat) (v : Value) (hs : a.eval s = v) (k : Nat) (M : List T3) (hown : w.ownsRow base 36 3 v k (cT M)) (hk : M.length = k) (ad : Option Addr) (n c : Nat) (L : List T3) (hx : a.eval x = .slice ad n c)
    (hI : Trips w ad L) (hl : L.length = n) (hnil : ad = none → c = 0) (hn : k + n ≤ 1000) (hbase : base ≤ w.heap.size)
    (h : ∀ v' w', w'.ownsRow base 36 3 v' (k + n) (cT (M ++ L)) → w.grownBy w' v.ownBlock → wpList Tryz.prog ops Q rest (a.put o.dst v') w') : wpList Tryz.prog ops Q (o :: rest) a w := by
  obtain ⟨i0, hi, hz0, hz1, hz2⟩ := info_parts infoTrip
  cases ad with
  | none =>
    have hn0 : n = 0 := by
      rcases hI with h0 | ⟨b, off, e, _⟩
      · omega
      · cases e
    subst hn0
    have hc : c = 0 := hnil rfl
    subst hc
    have hx0 : L = [] := List.eq_nil_of_length_eq_zero hl
    subst hx0
    refine wpList_append_own_none hgd s x 22 ho base 36 i0 3 Tryz.underlying22 hi v k (cT M) hs hown hx ?_
    rw [List.append_nil] at h
    exact h v w hown ⟨rfl, rfl, rfl, Nat.le_refl _, fun _ _ _ => rfl⟩
  | some ad =>
    refine wpList_append_own _ hgd s x 22 ho base 36 i0 (.agg #[.int .i64 0, .int .i64 0, .int .i64 0]) 3 24 Tryz.underlying22 hi hz0 hz1 hz2 rfl (by decide) v k (cT M) hs hown ad n c (cT L) hx (by rw [cT_length]; omega) ?_ (cT_one L) (by unfold maxLen; omega) (by omega) hbase ?_
    · intro j u hj
      have hjl : j < L.length * 3 := by have := (List.getElem?_eq_some_iff.1 hj).1; rwa [cT_length] at this
      rcases hI with h0 | ⟨b, off, e, hc⟩
      · omega
      · cases e
        have ha : Addr.add ⟨b, off, none⟩ j = ⟨b, off + j, none⟩ := by simp [Addr.add]
        rw [ha]
        obtain ⟨q, r, hr, rfl⟩ : ∃ q r, r < 3 ∧ j = q * 3 + r := ⟨j / 3, j % 3, Nat.mod_lt _ (by omega), by omega⟩
        obtain ⟨g0, g1, g2⟩ := cT_get L q (by omega)
        obtain ⟨c0, c1, c2⟩ := hc q (by omega)
        match r, hr with
        | 0, _ => rw [Nat.add_zero] at hj ⊢; rw [g0] at hj; cases hj; exact c0
        | 1, _ => rw [g1] at hj; cases hj; exact c1
        | 2, _ => rw [g2] at hj; cases hj; exact c2
    · intro v' w' hown' hg _
      rw [← cT_append] at hown'
      exact h v' w' hown' hg
set_option maxRecDepth 100000 in
theorem few_any (a : Option Addr) (l c : Nat) (s : List UInt8) (w : World) : Calls Tryz.prog 5 #[.slice a l c, strV s] w (Only (.bool (decide (l ≤ 100) && decide (s.length ≤ 100))) w) := by
  have LS := lenStr s
  by_cases h1 : l ≤ 100
  · have i1 : (l : Int) ≤ 100 := by omega
    by_cases h2 : s.length ≤ 100
    · have i2 : (s.length : Int) ≤ 100 := by omega
      rw [decide_eq_true h1, decide_eq_true h2]
      go_enter Tryz.func5, Tryz.ntmps5
      go_wp2
      go_ret
      exact Only.mk rfl
    · have i2 : ¬ (s.length : Int) ≤ 100 := by omega
      rw [decide_eq_true h1, decide_eq_false h2]
      go_enter Tryz.func5, Tryz.ntmps5
      go_wp2
      go_ret
      exact Only.mk rfl
  · have i1 : ¬ (l : Int) ≤ 100 := by omega
    rw [decide_eq_false h1, Bool.false_and]
    go_enter Tryz.func5, Tryz.ntmps5
    go_wp2
    go_ret
    exact Only.mk rfl
end Go.Proofs.YtfdaljekehkkaaaGreatDoor
