/- Layer 8, the specification: day. -/
import Derived.Test.YtniknldeafmgaaaQa
namespace Go.Proofs.Ytniknldeafmgaaa
set_option linter.unusedSimpArgs false
set_option linter.unusedVariables false
open Go Go.RowKit

/-- The cells of numbers. -/
def cN (h : Nat → Nat) (m : Nat) : Array Value := ((List.range m).map fun i => Value.int .i64 (h i : Int)).toArray
theorem cN_size (h : Nat → Nat) (m : Nat) : (cN h m).size = m := by simp [cN]
theorem cN_get {h : Nat → Nat} {m i : Nat} (hi : i < m) : (cN h m)[i]? = some (.int .i64 (h i : Int)) := by simp [cN, hi]
theorem cN_set (h : Nat → Nat) {m k v : Nat} (hk : k < m) : (cN h m).setIfInBounds k (.int .i64 (v : Int)) = cN (upf h k v) m := by
  apply Array.ext
  · simp [cN]
  · intro i h2 h3
    rw [cN_size] at h3
    rw [Array.getElem_setIfInBounds]
    · unfold upf
      by_cases e : k = i
      · subst e; simp [cN]
      · have e' : ¬ i = k := fun h => e h.symm
        simp [e, e', cN]
    · rw [cN_size]; exact h3
theorem cN_congr {h h' : Nat → Nat} {m : Nat} (e : ∀ i, i < m → h i = h' i) : cN h m = cN h' m := by
  unfold cN
  congr 1
  exact List.map_congr_left fun i hi => by rw [e i (List.mem_range.1 hi)]
theorem make_ints (m : Nat) (hm : m ≤ 1000000) (W : World) : (Instr.makeSlice 22 (.int .i64 (m : Int)) (.int .i64 (m : Int))).run Try.prog W = .ok (.slice (some ⟨W.heap.size, 0, none⟩) m m) (W.alloc (.cells (cN (fun _ => 0) m) 3)) := by
  obtain ⟨i0, hi, hz0, hz1, hz2⟩ := info_parts infoInt
  rw [run_make W 22 3 i0 (.int .i64 0) Try.underlying22 hi hz0 .i64 .i64 m m (by omega) (by omega) (by rw [hz2]; omega) (by omega)]
  have e : madeCells (Value.int .i64 0).cells (m * 1) = cN (fun _ => 0) m := by
    apply Array.ext'
    simp [madeCells, cN, Value.cells, Nat.mod_one, List.map_const']
  simp only [Int.toNat_natCast, hz1, e]
/-- What row i asks for. -/
def eN (b : Nat) (g : Nat → Nat) (i : Nat) : Nat := if g i < mo b g i then g i + 1 else 0
/-- What the rows below the i-th ask for in row k. -/
def oF (b : Nat) (g : Nat → Nat) : Nat → Nat → Nat
  | 0, _ => 0
  | i + 1, k => if k ≤ i then max (oF b g i k) (eN b g i) else oF b g i k
theorem oF_ge (b : Nat) (g : Nat → Nat) (k : Nat) : ∀ n i, k ≤ i → i < n → eN b g i ≤ oF b g n k
  | 0, i, _, h => by omega
  | n + 1, i, h1, h2 => by
    unfold oF
    by_cases e : i = n
    · subst e; rw [if_pos h1]; omega
    · have ih := oF_ge b g k n i h1 (by omega)
      rw [if_pos (by omega)]; omega
theorem oF_le (b : Nat) (g : Nat → Nat) (k m : Nat) : ∀ n, (∀ i, k ≤ i → i < n → eN b g i ≤ m) → oF b g n k ≤ m
  | 0, _ => Nat.zero_le _
  | n + 1, h => by
    have ih := oF_le b g k m n (fun i h1 h2 => h i h1 (by omega))
    unfold oF
    split
    · have := h n (by omega) (by omega); omega
    · exact ih
theorem dr_ge {a b : Nat} {g : Nat → Nat} (hd : ∀ i, g (i + 1) ≤ g i) : ∀ n k i, k + n = a → k ≤ i → i < a → eN b g i ≤ dr a b g (a - k)
  | 0, k, i, h, h1, h2 => by omega
  | n + 1, k, i, h, h1, h2 => by
    rw [dr_at' a b g (by omega)]
    have mono : ∀ d, g (k + d) ≤ g k := by
      intro d
      induction d with
      | zero => exact Nat.le_refl _
      | succ d ih => exact Nat.le_trans (hd (k + d)) ih
    have hgi := mono (i - k)
    rw [show k + (i - k) = i by omega] at hgi
    split
    · unfold eN; split <;> omega
    · rename_i hn
      by_cases e : i = k
      · subst e; unfold eN; rw [if_neg hn]; omega
      · exact dr_ge hd n (k + 1) i (by omega) (by omega) h2
theorem dr_is (a b : Nat) (g : Nat → Nat) : ∀ n k, k + n = a → dr a b g (a - k) = 0 ∨ ∃ i, k ≤ i ∧ i < a ∧ dr a b g (a - k) = eN b g i
  | 0, k, h => .inl (by rw [show a - k = 0 by omega]; rfl)
  | n + 1, k, h => by
    rw [dr_at' a b g (by omega)]
    split
    · rename_i hn
      exact .inr ⟨k, Nat.le_refl _, by omega, by unfold eN; rw [if_pos hn]⟩
    · rcases dr_is a b g n (k + 1) (by omega) with h1 | ⟨i, h1, h2, h3⟩
      · exact .inl h1
      · exact .inr ⟨i, by omega, h2, h3⟩
theorem oF_day {a b : Nat} {g : Nat → Nat} (hs : IsS a b g) {k : Nat} (hk : k < a) : oF b g a k = dayF a b g k := by
  have e : dayF a b g k = dr a b g (a - k) := if_pos hk
  rw [e]
  apply Nat.le_antisymm
  · exact oF_le b g k _ a (fun i h1 h2 => dr_ge hs.dn (a - k) k i (by omega) h1 h2)
  · rcases dr_is a b g (a - k) k (by omega) with h1 | ⟨i, h1, h2, h3⟩
    · rw [h1]; exact Nat.zero_le _
    · rw [h3]; exact oF_ge b g k a i h1 h2
theorem oF_bd {b : Nat} {g : Nat → Nat} (hg : ∀ i, g i ≤ b) (k n : Nat) : oF b g n k ≤ b + 1 := oF_le b g k _ n (fun i _ _ => by unfold eN; have := hg i; split <;> omega)
/-- While row i is looked at: the columns below j. -/
def oJ (b : Nat) (g : Nat → Nat) (i j : Nat) : Nat → Nat := if g i < j ∧ g i < mo b g i then oF b g (i + 1) else oF b g i
/-- While its plot that is next is looked at: the rows below k. -/
def oK (b : Nat) (g : Nat → Nat) (i k : Nat) : Nat → Nat := fun q => if q < k then oF b g (i + 1) q else oF b g i q
theorem oK_zero (b : Nat) (g : Nat → Nat) (i : Nat) : oK b g i 0 = oF b g i := by funext q; unfold oK; rw [if_neg (by omega)]
theorem oK_end (b : Nat) (g : Nat → Nat) (i : Nat) : oK b g i (i + 1) = oF b g (i + 1) := by
  funext q; unfold oK
  split
  · rfl
  · conv => rhs; unfold oF
    rw [if_neg (by omega)]
theorem oK_step {b : Nat} {g : Nat → Nat} {i k : Nat} (hk : k ≤ i) (hn : g i < mo b g i) : upf (oK b g i k) k (max (oF b g i k) (g i + 1)) = oK b g i (k + 1) := by
  funext q; unfold upf oK
  by_cases e : q = k
  · subst e
    rw [if_pos rfl, if_pos (by omega)]
    conv => rhs; unfold oF
    rw [if_pos hk]; unfold eN; rw [if_pos hn]
  · rw [if_neg e]
    by_cases h : q < k
    · rw [if_pos h, if_pos (by omega)]
    · rw [if_neg h, if_neg (by omega)]
theorem oJ_zero (b : Nat) (g : Nat → Nat) (i : Nat) : oJ b g i 0 = oF b g i := by unfold oJ; rw [if_neg (by omega)]
theorem oJ_end {b : Nat} {g : Nat → Nat} (i : Nat) (hm : mo b g i ≤ b) : oJ b g i b = oF b g (i + 1) := by
  unfold oJ
  by_cases h : g i < mo b g i
  · rw [if_pos ⟨by omega, h⟩]
  · rw [if_neg (fun k => h k.2)]
    funext k
    conv => rhs; unfold oF
    have : eN b g i = 0 := by unfold eN; rw [if_neg h]
    rw [this]; split <;> simp
theorem oJ_next {b : Nat} {g : Nat → Nat} {i j : Nat} (h : nxt b g i j) : oJ b g i j = oF b g i ∧ oJ b g i (j + 1) = oF b g (i + 1) := by
  unfold nxt at h
  unfold oJ
  rw [if_neg (by omega), if_pos (by omega)]
  exact ⟨rfl, rfl⟩
theorem oJ_not {b : Nat} {g : Nat → Nat} {i j : Nat} (h : ¬ nxt b g i j) : oJ b g i (j + 1) = oJ b g i j := by
  unfold nxt at h
  unfold oJ
  by_cases c : g i < j ∧ g i < mo b g i
  · rw [if_pos c, if_pos (by omega)]
  · rw [if_neg c, if_neg (by omega)]
set_option maxRecDepth 100000 in
set_option maxHeartbeats 4000000 in
theorem refDay_any (a b : Nat) (g : Nat → Nat) (ad : Option Addr) (c : Nat) (w : World) (hs : IsS a b g) (hI : Ints w ad (stL a g)) :
    Calls Try.prog 49 #[.int .i64 (a : Int), .int .i64 (b : Int), .slice ad a c] w (fun e w' => ∃ G, e = .returned (.slice (some ⟨G, 0, none⟩) a a) ∧ Ints w' (some ⟨G, 0, none⟩) (stL a (dayF a b g)) ∧ Below w.heap.size w w') := by
  have hp := hs.p
  have ha1 := hp.a1
  have ha6 := hp.a6
  have hb1 := hp.b1
  have hb6 := hp.b6
  have hgb := Lib.hid hp.gb
  have hmk := make_ints a (by omega)
  have k0 := Lib.hid (Blk.new w 3 (cN (fun _ => 0) a))
  have B := Lib.hid (b1 w (.cells (cN (fun _ => 0) a) 3))
  have hI0 := Lib.hid hI
  have hN := Lib.hid (fun i j ad c w (h : Ints w ad (stL a g)) (hi : i < a) (hj : j < b) => refNext_any a b g i j ad c w hp h hi hj)
  have ho0 : Hid (cN (fun _ => 0) a = cN (oF b g 0) a) := Lib.hid rfl
  have hJ0 := Lib.hid (oJ_zero b g)
  have hJe := Lib.hid (fun i => oJ_end (g := g) i (mo_le hp i))
  have hJn := Lib.hid (fun i j (h : nxt b g i j) => oJ_next h)
  have hJx := Lib.hid (fun i j (h : ¬ nxt b g i j) => oJ_not h)
  have hK0 := Lib.hid (oK_zero b g)
  have hKe := Lib.hid (oK_end b g)
  have hKs := Lib.hid (fun i k (h : k ≤ i) (hn : g i < mo b g i) => oK_step h hn)
  have hobd := Lib.hid (fun n k => oF_bd hp.gb k n)
  have hday := Lib.hid (fun k (h : k < a) => oF_day hs h)
  clear hs hI hp
  go_enter Try.func49, Try.ntmps49
  go_wp2
  clear hmk
  go_loopw [8, 9, 10] (fun i _ _ wr => ∃ n : Nat, n ≤ a ∧ i = .int .i64 (n : Int) ∧ Blk wr w.heap.size 3 (cN (oF b g n) a) ∧ Below w.heap.size w wr) (fun i _ _ _ => a - (intOf i).toNat)
  case atStart => exact ⟨0, Nat.zero_le _, rfl, by rw [← ho0.out]; exact k0.out, B.out⟩
  case round =>
    clear k0 B
    obtain ⟨n, hn, rfl, k0, B⟩ := hrel
    replace k0 := Lib.hid k0
    replace B := Lib.hid B
    by_cases hna : n < a
    · have hna' : (n : Int) < (a : Int) := by omega
      have hJ0' := Lib.hid (hJ0.out n)
      have hJe' := Lib.hid (hJe.out n)
      go_wp2
      go_loopw [9, 10] (fun j _ wr => ∃ m : Nat, m ≤ b ∧ j = .int .i64 (m : Int) ∧ Blk wr w.heap.size 3 (cN (oJ b g n m) a) ∧ Below w.heap.size w wr) (fun j _ _ => b - (intOf j).toNat)
      case atStart => exact ⟨0, Nat.zero_le _, rfl, by rw [hJ0'.out]; exact k0.out, B.out⟩
      case round =>
        clear k0 B
        obtain ⟨m, hm, rfl, k0, B⟩ := hrel
        replace k0 := Lib.hid k0
        replace B := Lib.hid B
        by_cases hmb : m < b
        · have hmb' : (m : Int) < (b : Int) := by omega
          by_cases hx : nxt b g n m
          · obtain ⟨e1, e2⟩ := hJn.out n m hx
            have hNx := Lib.hid (fun ad c w h => by have := hN.out n m ad c w h hna hmb; rwa [decide_eq_true hx] at this)
            have hgm : g n = m ∧ g n < mo b g n := by unfold nxt at hx; omega
            have hKs' := Lib.hid (fun k (h : k ≤ n) => hKs.out n k h hgm.2)
            have hKe' := Lib.hid (hKe.out n)
            rw [e1, ← hK0.out n] at k0
            replace e2 := Lib.hid e2
            have hgm1 := Lib.hid hgm.1
            clear hgm hx e1
            go_wp2
            go_loopw [10] (fun q wr => ∃ k : Nat, k ≤ n + 1 ∧ q = .int .i64 (k : Int) ∧ Blk wr w.heap.size 3 (cN (oK b g n k) a) ∧ Below w.heap.size w wr) (fun q _ => n + 1 - (intOf q).toNat)
            case atStart => exact ⟨0, Nat.zero_le _, rfl, k0.out, B.out⟩
            case round =>
              clear k0 B
              obtain ⟨k, hk, rfl, k0, B⟩ := hrel
              have hNw := Lib.hid (hNx.out ad c wr (hI0.out.next B))
              by_cases hkn : k ≤ n
              · have hkn' : (k : Int) ≤ (n : Int) := by omega
                have hka : (k : Int) < (a : Int) := by omega
                have hx0 := k0.c k (cN_get (h := oK b g n k) (m := a) (i := k) (by omega))
                have f0 := k0.fr
                have ek : oK b g n k k = oF b g n k := by unfold oK; rw [if_neg (by omega)]
                rw [ek] at hx0
                have hb0 := hobd.out n k
                have hst := hKs'.out k hkn
                rw [hgm1.out] at hst
                generalize oF b g n k = x at *
                have hk1 := k0.setA (i := k) (.int .i64 ((max x (m + 1) : Nat) : Int))
                rw [cN_set _ (by omega), hst] at hk1
                have hB1 := B.setCell (p := ⟨w.heap.size, k, none⟩) (Nat.le_refl _) (.int .i64 ((max x (m + 1) : Nat) : Int))
                clear ek hst
                have em : ((max x (m + 1) : Nat) : Int) = max (x : Int) ((m : Int) + 1) := by omega
                rw [em] at hk1 hB1
                replace hk1 := Lib.hid hk1
                replace hB1 := Lib.hid hB1
                clear k0 B em
                go_wp2_with (go_at_call 66; (with_reducible refine hNw.out.mono ?_); rintro _ _ ⟨rfl, rfl⟩)
                go_roundw
                case rel => exact ⟨k + 1, by omega, by go_num, hk1.out, hB1.out⟩
                case measure => simp [intOf]; omega
              · have hkn' : (n : Int) < (k : Int) := by omega
                obtain rfl : k = n + 1 := by omega
                rw [hKe'.out, ← e2.out] at k0
                replace k0 := Lib.hid k0
                replace B := Lib.hid B
                go_wp2
                go_roundw
                case rel => exact ⟨m + 1, by omega, by go_num, k0.out, B.out⟩
                case measure => simp [intOf]; omega
          · have e1 := Lib.hid (hJx.out n m hx)
            have hNx := Lib.hid (fun ad c w h => by have := hN.out n m ad c w h hna hmb; rwa [decide_eq_false hx] at this)
            have h0n : (0 : Int) ≤ (n : Int) := by omega
            replace hx := Lib.hid hx
            go_wp2
            go_loopw [10] (fun q wr => q = .int .i64 0 ∧ Blk wr w.heap.size 3 (cN (oJ b g n m) a) ∧ Below w.heap.size w wr) (fun q _ => 0)
            case atStart => exact ⟨rfl, k0.out, B.out⟩
            case round =>
              clear k0 B
              obtain ⟨rfl, k0, B⟩ := hrel
              have hNw := Lib.hid (hNx.out ad c wr (hI0.out.next B))
              replace k0 := Lib.hid k0
              replace B := Lib.hid B
              go_wp2_with (go_at_call 66; (with_reducible refine hNw.out.mono ?_); rintro _ _ ⟨rfl, rfl⟩)
              go_roundw
              case rel => exact ⟨m + 1, by omega, by go_num, by rw [e1.out]; exact k0.out, B.out⟩
              case measure => simp [intOf]; omega
        · have hmb' : (b : Int) ≤ (m : Int) := by omega
          obtain rfl : m = b := by omega
          have k1 := k0.out
          rw [hJe'.out] at k1
          replace k1 := Lib.hid k1
          go_wp2
          go_roundw
          case rel => exact ⟨n + 1, by omega, by go_num, k1.out, B.out⟩
          case measure => simp [intOf]; omega
    · have hna' : (a : Int) ≤ (n : Int) := by omega
      obtain rfl : n = a := by omega
      go_wp2
      go_ret
      refine ⟨w.heap.size, rfl, .inr ⟨_, 0, rfl, fun i hi => ?_⟩, B.out⟩
      rw [stL_len] at hi
      rw [Nat.zero_add, stL_nth _ hi, ← hday.out i hi]
      exact k0.out.c i (cN_get hi)
end Go.Proofs.Ytniknldeafmgaaa
