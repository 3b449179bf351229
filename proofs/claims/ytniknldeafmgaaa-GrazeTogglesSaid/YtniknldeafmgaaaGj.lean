/- Layer 8, by the program: pastures compared; lists of pastures; round. -/
import Derived.Test.YtniknldeafmgaaaGh
namespace Go.Proofs.Ytniknldeafmgaaa
set_option linter.unusedSimpArgs false
set_option linter.unusedVariables false
open Go Go.RowKit

theorem eqA6 (fuel : Nat) (a b c d e f g h i j k l : Int) (w : World) : (Op.equalIn (fuel + 1 + 1) 64 (.agg #[.int .i64 a, .int .i64 b, .int .i64 c, .int .i64 d, .int .i64 e, .int .i64 f]) (.agg #[.int .i64 g, .int .i64 h, .int .i64 i, .int .i64 j, .int .i64 k, .int .i64 l])).run Try.prog w = .ok (a == g && b == h && c == i && d == j && e == k && f == l) w := by
  have u3 := Try.underlying3
  have a3 := Try.isAgg3
  have z3 := Try.sizeOf3
  rw [Op.equalIn]
  simp only [Sem.run_bind, run_underlying Try.underlying64, Result.andThen_ok]
  simp only [Std.Legacy.Range.forIn_eq_forIn_range', Std.Legacy.Range.size, Nat.sub_zero, Nat.add_sub_cancel, Nat.div_one, List.range'_succ, List.range'_zero, List.forIn_cons, List.forIn_nil]
  go_simp
  by_cases h1 : a = g
  · by_cases h2 : b = h
    · by_cases h3 : c = i
      · by_cases h4 : d = j
        · by_cases h5 : e = k
          · by_cases h6 : f = l <;> simp [h1, h2, h3, h4, h5, h6]
          · simp [h1, h2, h3, h4, h5]
        · simp [h1, h2, h3, h4]
      · simp [h1, h2, h3]
    · simp [h1, h2]
  · simp [h1]
/-- The numbers of two pastures are the same. -/
def EqN (m n a b c d e f m' n' a' b' c' d' e' f' : Int) : Prop := m = m' ∧ n = n' ∧ a = a' ∧ b = b' ∧ c = c' ∧ d = d' ∧ e = e' ∧ f = f'
instance (m n a b c d e f m' n' a' b' c' d' e' f' : Int) : Decidable (EqN m n a b c d e f m' n' a' b' c' d' e' f') := by unfold EqN; infer_instance
theorem eqPst (m n a b c d e f m' n' a' b' c' d' e' f' : Int) (w : World) :
    (Op.equalIn 10000 66 (.agg #[.int .i64 m, .int .i64 n, .int .i64 a, .int .i64 b, .int .i64 c, .int .i64 d, .int .i64 e, .int .i64 f]) (.agg #[.int .i64 m', .int .i64 n', .int .i64 a', .int .i64 b', .int .i64 c', .int .i64 d', .int .i64 e', .int .i64 f'])).run Try.prog w = .ok (decide (EqN m n a b c d e f m' n' a' b' c' d' e' f')) w := by
  have u3 := Try.underlying3
  have a3 := Try.isAgg3
  have z3 := Try.sizeOf3
  have a58 := Try.isAgg64
  have z58 := Try.sizeOf64
  have hS : Try.prog.underlying 66 = some (.struct (Try.prog.fieldsOf 66)) := by kernel_rfl
  rw [show (10000 : Nat) = 9999 + 1 from rfl, run_equalIn_agg w 9999 66 _ _ hS (by kernel_rfl)]
  simp only [Program.fieldsOf, Try.underlying66]
  go_simp
  have e0 : decide (EqN m n a b c d e f m' n' a' b' c' d' e' f') = (decide (m = m') && (decide (n = n') && (a == a' && b == b' && c == c' && d == d' && e == e' && f == f'))) := by
    rw [Bool.eq_iff_iff, decide_eq_true_eq]
    unfold EqN
    simp [and_assoc]
  rw [e0]
  clear e0
  by_cases h1 : m = m'
  · by_cases h2 : n = n'
    · simp only [h1, h2, decide_true, Bool.true_and]
      go_simp
      rw [show (9999 : Nat) = 9997 + 1 + 1 from rfl, eqA6, Result.andThen_ok]
      generalize (a == a' && b == b' && c == c' && d == d' && e == e' && f == f') = x
      cases x <;> rfl
    · simp [h1, h2]
  · simp [h1]
@[go_sem high] theorem run_eqlP (m n a b c d e f m' n' a' b' c' d' e' f' : Int) (w : World) :
    (binOp .eql 66 (.agg #[.int .i64 m, .int .i64 n, .int .i64 a, .int .i64 b, .int .i64 c, .int .i64 d, .int .i64 e, .int .i64 f]) (.agg #[.int .i64 m', .int .i64 n', .int .i64 a', .int .i64 b', .int .i64 c', .int .i64 d', .int .i64 e', .int .i64 f'])).run Try.prog w = .ok (.bool (decide (EqN m n a b c d e f m' n' a' b' c' d' e' f'))) w := by
  rw [run_eql_struct, eqPst]; rfl
@[go_sem high] theorem run_neqP (m n a b c d e f m' n' a' b' c' d' e' f' : Int) (w : World) :
    (binOp .neq 66 (.agg #[.int .i64 m, .int .i64 n, .int .i64 a, .int .i64 b, .int .i64 c, .int .i64 d, .int .i64 e, .int .i64 f]) (.agg #[.int .i64 m', .int .i64 n', .int .i64 a', .int .i64 b', .int .i64 c', .int .i64 d', .int .i64 e', .int .i64 f'])).run Try.prog w = .ok (.bool (!decide (EqN m n a b c d e f m' n' a' b' c' d' e' f'))) w := by
  rw [run_neq_struct, eqPst]; rfl
/-- Two states are the same. -/
abbrev EqG (a b : Nat) (g h : Nat → Nat) : Prop := EqN (a : Int) (b : Int) (g 0 : Int) (g 1 : Int) (g 2 : Int) (g 3 : Int) (g 4 : Int) (g 5 : Int) (a : Int) (b : Int) (h 0 : Int) (h 1 : Int) (h 2 : Int) (h 3 : Int) (h 4 : Int) (h 5 : Int)
theorem eqG_iff {a b : Nat} {g h : Nat → Nat} (ha : a ≤ 6) (hg : ∀ i, a ≤ i → g i = 0) (hh : ∀ i, a ≤ i → h i = 0) : EqG a b g h ↔ g = h := by
  unfold EqG EqN
  constructor
  · rintro ⟨_, _, h0, h1, h2, h3, h4, h5⟩
    funext i
    by_cases hi : i < 6
    · rcases (show i = 0 ∨ i = 1 ∨ i = 2 ∨ i = 3 ∨ i = 4 ∨ i = 5 by omega) with rfl | rfl | rfl | rfl | rfl | rfl <;> omega
    · rw [hg i (by omega), hh i (by omega)]
  · rintro rfl
    exact ⟨rfl, rfl, rfl, rfl, rfl, rfl, rfl, rfl⟩
theorem infoP : (Try.prog.info? 66).map (fun i => (i.zero, i.size, i.bytes)) = some (some (.agg zC), 8, 64) := by kernel_rfl
/-- The cells of pastures, one after another. -/
def pL (a b : Nat) (L : List (Nat → Nat)) : List Value := L.flatMap fun g => (pC a b g).toList
theorem pL_snoc (a b : Nat) (L : List (Nat → Nat)) (g : Nat → Nat) : pL a b (L ++ [g]) = pL a b L ++ (pC a b g).toList := by simp [pL]
theorem pL_length (a b : Nat) (L : List (Nat → Nat)) : (pL a b L).length = L.length * 8 := by
  induction L with
  | nil => rfl
  | cons g L ih => show ((pC a b g).toList ++ pL a b L).length = _; rw [List.length_append, ih]; simp; omega
/-- The i-th pasture. -/
def fAt (l : List (Nat → Nat)) (j : Nat) : Nat → Nat := l.getD j (fun _ => 0)
theorem fAt_mem {l : List (Nat → Nat)} {j : Nat} (h : j < l.length) : fAt l j ∈ l := by
  unfold fAt; rw [List.getD_eq_getElem?_getD, List.getElem?_eq_getElem h]; exact List.getElem_mem h
theorem pL_get {a b : Nat} {L : List (Nat → Nat)} {i j : Nat} (hi : i < L.length) (hj : j < 8) : (pL a b L)[i * 8 + j]? = (pC a b (fAt L i))[j]? := by
  induction L generalizing i with
  | nil => simp at hi
  | cons h L ih =>
    have e : pL a b (h :: L) = (pC a b h).toList ++ pL a b L := rfl
    rw [e]
    cases i with
    | zero => rw [List.getElem?_append_left (by simp; omega)]; simp [fAt]
    | succ i =>
      rw [List.getElem?_append_right (by simp; omega), show (i + 1) * 8 + j - (pC a b h).toList.length = i * 8 + j by simp; omega, ih (by simpa using hi)]
      simp [fAt]
/-- Block B holds pastures, and perhaps more. -/
def PBlk (w : World) (B a b : Nat) (L : List (Nat → Nat)) : Prop := ∃ cur : Array Value, Blk w B 66 cur ∧ cur.toList.take (L.length * 8) = pL a b L
theorem PBlk.c {w : World} {B a b : Nat} {L : List (Nat → Nat)} (h : PBlk w B a b L) {i : Nat} (hi : i < L.length) : ∀ j, j < 8 → w.cell? ⟨B, i * 8 + j, none⟩ = (pC a b (fAt L i))[j]? := by
  intro j hj
  obtain ⟨cur, hb, ht⟩ := h
  have h1 := pL_get (a := a) (b := b) (L := L) hi hj
  rw [← ht, List.getElem?_take, if_pos (by omega)] at h1
  have h2 : cur[i * 8 + j]? = (pC a b (fAt L i))[j]? := by simpa using h1
  obtain ⟨v, hv⟩ : ∃ v, (pC a b (fAt L i))[j]? = some v := ⟨_, Array.getElem?_eq_getElem (by simp; omega)⟩
  rw [hv] at h2 ⊢
  exact hb.c _ h2
theorem PBlk.pc {W : World} {B a b : Nat} {L : List (Nat → Nat)} (h : PBlk W B a b L) {i : Nat} (hi : i < L.length) :
    W.cell? ⟨B, i * 8, none⟩ = some (.int .i64 (a : Int)) ∧ W.cell? ⟨B, i * 8 + 1, none⟩ = some (.int .i64 (b : Int)) ∧ W.cell? ⟨B, i * 8 + 2, none⟩ = some (.int .i64 (fAt L i 0 : Int)) ∧ W.cell? ⟨B, i * 8 + 3, none⟩ = some (.int .i64 (fAt L i 1 : Int)) ∧
    W.cell? ⟨B, i * 8 + 4, none⟩ = some (.int .i64 (fAt L i 2 : Int)) ∧ W.cell? ⟨B, i * 8 + 5, none⟩ = some (.int .i64 (fAt L i 3 : Int)) ∧ W.cell? ⟨B, i * 8 + 6, none⟩ = some (.int .i64 (fAt L i 4 : Int)) ∧ W.cell? ⟨B, i * 8 + 7, none⟩ = some (.int .i64 (fAt L i 5 : Int)) :=
  ⟨h.c hi 0 (by omega), h.c hi 1 (by omega), h.c hi 2 (by omega), h.c hi 3 (by omega), h.c hi 4 (by omega), h.c hi 5 (by omega), h.c hi 6 (by omega), h.c hi 7 (by omega)⟩
theorem PBlk.keep {w w' : World} {B a b : Nat} {L : List (Nat → Nat)} (h : PBlk w B a b L) (hk : ∀ cur, Blk w B 66 cur → Blk w' B 66 cur) : PBlk w' B a b L := let ⟨cur, hb, ht⟩ := h; ⟨cur, hk cur hb, ht⟩
theorem PBlk.ext {w w' : World} {B a b : Nat} {L : List (Nat → Nat)} (h : PBlk w B a b L) (hb : Below w.heap.size w w') : PBlk w' B a b L := h.keep fun _ k => k.ext hb
theorem PBlk.lt {w : World} {B a b : Nat} {L : List (Nat → Nat)} (h : PBlk w B a b L) : B < w.heap.size := let ⟨_, hb, _⟩ := h; hb.lt
/-- New pastures were returned. -/
def NewP (a b : Nat) (L : List (Nat → Nat)) (w : World) (e : Ending) (w' : World) : Prop := ∃ p c, e = .returned (.slice p L.length c) ∧ L.length ≤ c ∧ (0 < L.length → ∃ B, p = some ⟨B, 0, none⟩ ∧ w.heap.size ≤ B ∧ PBlk w' B a b L) ∧ Below w.heap.size w w'
theorem own_past {w : World} {base n a b : Nat} {v : Value} {L : List (Nat → Nat)} (h : w.ownsRow base 66 8 v n (pL a b L)) (hn : L.length = n) : ∃ p c, v = .slice p n c ∧ n ≤ c ∧ (0 < L.length → ∃ B, p = some ⟨B, 0, none⟩ ∧ base ≤ B ∧ PBlk w B a b L) := by
  rcases h.2 with ⟨rfl, h2⟩ | ⟨g, cap, cur, rfl, hg, hh, hcap, _, _, ht⟩
  · exact ⟨none, 0, by rw [h2], by omega, fun h => by omega⟩
  · exact ⟨some ⟨g, 0, none⟩, cap, rfl, hcap, fun _ => ⟨g, rfl, hg, cur, hh, by rw [hn]; exact ht⟩⟩
theorem cell8_new (w : World) (a b : Nat) (g : Nat → Nat) (t : TypeId) : ∀ j u, (pC a b g).toList[j]? = some u → (w.alloc (.cells (pC a b g) t)).cell? (Addr.add ⟨w.heap.size, 0, none⟩ j) = some u := by
  intro j u hj
  have ha : Addr.add ⟨w.heap.size, 0, none⟩ j = ⟨w.heap.size, j, none⟩ := by first | (simp [Addr.add]; done) | (simp [Addr.add]; omega)
  rw [ha]
  exact (Blk.new w t _).c j (by rw [← hj]; simp)
theorem blk_grown {A B : World} {row : Option Nat} {k : Nat} {t : TypeId} {cs : Array Value} (h : Blk A k t cs) (hg : A.grownBy B row) (hne : some k ≠ row) : Blk B k t cs := (hg.block _ h.lt hne).trans h
end Go.Proofs.Ytniknldeafmgaaa
