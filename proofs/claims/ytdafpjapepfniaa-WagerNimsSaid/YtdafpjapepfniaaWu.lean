/- Layer 7, by the program: fullBar, taken, First. A region that draws its order, walked operation by operation: what yields one value whatever comes first is taken first; where several are ready each way is walked. -/
import Derived.Test.YtdafpjapepfniaaWt
namespace Go.Proofs.Ytdafpjapepfniaa
open Go Go.RowKit

section
variable {P : Program} {ops : Array Oper} {md : Region.Mode} {S : World → Prop} {Q : Exit → Act → World → Prop}
/-- Whatever order is picked from here on; S holds behind each operation. -/
def wpAnyS (P : Program) (md : Region.Mode) (ops : Array Oper) (Q : Exit → Act → World → Prop) (S : World → Prop) : Nat → Array Bool → Act → World → Prop
  | 0, listed, a, w => Region.ready md ops listed = [] ∧ Q .normal a w
  | fuel + 1, listed, a, w =>
    (Region.ready md ops listed = [] → Q .normal a w) ∧
    ∀ i ∈ Region.ready md ops listed, wpOp P ops Q i (fun a' w' => S w' ∧ wpAnyS P md ops Q S fuel (listed.setIfInBounds i true) a' w') a w
theorem wpAny_of_S : ∀ (fuel : Nat) (listed : Array Bool) (a : Act) (w : World), wpAnyS P md ops Q S fuel listed a w → wpAny P md ops Q fuel listed a w
  | 0, _, _, _, h => h
  | fuel + 1, _, _, _, h => ⟨h.1, fun i hi => wpOp_mono (fun a' w' h' => wpAny_of_S fuel _ a' w' h'.2) (h.2 i hi)⟩
theorem wpAnyS_first {i : Nat} {oi : Oper} {v : Value} (hi : ops[i]? = some oi) (hsel : ∀ (j : Nat) (o : Oper) cs b, ops[j]? = some o → o.op ≠ .select cs b)
    (hQ : ∀ c a w, Q (.panic c) (a.put oi.dst v) w → Q (.panic c) a w) :
    ∀ (fuel : Nat) (listed : Array Bool) (a : Act) (w : World),
      (∀ j oj, ops[j]? = some oj → j ≠ i → listed.getD j true = false → (∀ e ∈ oj.after, Region.binds md e = true → e.on ≠ i) → oi.apart ops oj = true) →
      i ∈ Region.ready md ops listed → YieldsIf P ops S oi v a → S w →
      wpAnyS P md ops Q S fuel (listed.setIfInBounds i true) (a.put oi.dst v) w → wpAnyS P md ops Q S (fuel + 1) listed a w := by
  intro fuel
  induction fuel with
  | zero =>
    intro listed a w _ hr hy hS H
    refine ⟨fun h => (by rw [h] at hr; cases hr), fun j hj => ?_⟩
    by_cases hji : j = i
    · subst hji; exact hy.wpOp hi hS ⟨hS, H⟩
    · have := ready_mono hj hji
      rw [H.1] at this
      cases this
  | succ fuel ih =>
    intro listed a w hfree hr hy hS H
    refine ⟨fun h => (by rw [h] at hr; cases hr), fun j hj => ?_⟩
    by_cases hji : j = i
    · subst hji; exact hy.wpOp hi hS ⟨hS, H⟩
    · have h1 := H.2 j (ready_mono hj hji)
      obtain ⟨hjun, oj, hoj, hall⟩ := mem_ready.1 hj
      have hun := (mem_ready.1 hr).1
      have hnot : ∀ e ∈ oj.after, Region.binds md e = true → e.on ≠ i := fun e he hb heq => by
        have h1 := hall e he hb
        rw [heq, getD_both hun] at h1
        cases h1
      have h2 := wpOp_putIf hoj (hfree j oj hoj hji hjun hnot) (fun cs b => hsel i oi cs b hi) (fun cs b => hsel j oj cs b hoj) hQ hy h1
      have hfree' : ∀ k ok, ops[k]? = some ok → k ≠ i → (listed.setIfInBounds j true).getD k true = false →
          (∀ e ∈ ok.after, Region.binds md e = true → e.on ≠ i) → oi.apart ops ok = true := fun k ok hk hki hun hno => by
        refine hfree k ok hk hki ?_ hno
        by_cases hjk : j = k
        · subst hjk; exact hjun
        · rw [getD_set_ne true hjk] at hun; exact hun
      refine wpOp_mono (fun a' w' h3 => ⟨h3.2.1, ih (listed.setIfInBounds j true) a' w' hfree' (ready_mono hr (Ne.symm hji)) h3.1 h3.2.1 ?_⟩) h2
      rw [Array.setIfInBounds_comm _ _ hji]
      exact h3.2.2
/-- What follows one operation. -/
def nextQ (K : Act → World → Prop) (Q : Exit → Act → World → Prop) (e : Exit) (a : Act) (w : World) : Prop :=
  match e with
  | .normal => K a w
  | e => Q e a w
theorem wpOp_of_list {i : Nat} {o : Oper} {K : Act → World → Prop} {a : Act} {w : World} (ho : ops[i]? = some o) (h : wpList P ops (nextQ K Q) [o] a w) : wpOp P ops Q i K a w := by
  unfold wpOp
  simp only [ho]
  unfold wpList at h
  split
  · rename_i hw
    simp only [hw, if_true] at h
    rcases h with h | ⟨h, a', w', h2⟩
    · refine .inl ?_
      unfold Oper.wp at h ⊢
      generalize (execOp a.eval o).run P w = r at *
      cases r with
      | ok n w' =>
        cases n <;> simp only [Oper.upon] at h ⊢
        case value u => exact h
        case skip => exact h
        case defer d => exact h
        case enter f args =>
          exact Calls.mono h (fun e w'' he => by
            cases e with
            | returned v => exact he
            | panicked c => exact he
            | outgrown => obtain ⟨a', w', h2⟩ := he; exact ⟨a', w', h2⟩)
        case row r args => exact Rows.mono h (fun _ _ he => he)
      | halt x w' => cases x <;> simp only [Oper.upon] at h ⊢; exact h
    · exact .inr ⟨h, a', w', h2⟩
  · rename_i hw
    simp only [hw] at h
    exact h
theorem anyS_one {n : Nat} {listed : Array Bool} {a : Act} {w : World} {o : Oper} (i : Nat) (hr : Region.ready md ops listed = [i]) (ho : ops[i]? = some o)
    (h : wpList P ops (nextQ (fun a' w' => S w' ∧ wpAnyS P md ops Q S n (listed.setIfInBounds i true) a' w') Q) [o] a w) : wpAnyS P md ops Q S (n + 1) listed a w := by
  refine ⟨fun h0 => (by rw [h0] at hr; cases hr), fun j hj => ?_⟩
  rw [hr, List.mem_singleton] at hj
  subst hj
  exact wpOp_of_list ho h
theorem anyS_two {n : Nat} {listed : Array Bool} {a : Act} {w : World} {o o' : Oper} (i i' : Nat) (hr : Region.ready md ops listed = [i, i']) (ho : ops[i]? = some o) (ho' : ops[i']? = some o')
    (h : wpList P ops (nextQ (fun a' w' => S w' ∧ wpAnyS P md ops Q S n (listed.setIfInBounds i true) a' w') Q) [o] a w)
    (h' : wpList P ops (nextQ (fun a' w' => S w' ∧ wpAnyS P md ops Q S n (listed.setIfInBounds i' true) a' w') Q) [o'] a w) : wpAnyS P md ops Q S (n + 1) listed a w := by
  refine ⟨fun h0 => (by rw [h0] at hr; cases hr), fun j hj => ?_⟩
  rw [hr] at hj
  simp only [List.mem_cons, List.not_mem_nil, or_false] at hj
  rcases hj with rfl | rfl
  · exact wpOp_of_list ho h
  · exact wpOp_of_list ho' h'
theorem anyS_pure {n : Nat} {listed : Array Bool} {a : Act} {w : World} {oi : Oper} (i : Nat) (v : Value) (hi : ops[i]? = some oi) (hsel : Region.noSelect ops = true) (hf : Region.free md ops listed i = true) (hr : (Region.ready md ops listed).contains i = true)
    (hQ : ∀ c a w, Q (.panic c) (a.put oi.dst v) w → Q (.panic c) a w) (hw : Region.wanted oi (yielded ops a.tmps) = true) (hy : ∀ w, S w → (execOp a.eval oi).run P w = .ok (.value v) w) (hS : S w)
    (h : wpAnyS P md ops Q S n (listed.setIfInBounds i true) (a.put oi.dst v) w) : wpAnyS P md ops Q S (n + 1) listed a w :=
  wpAnyS_first hi (Region.noSelect_spec hsel) hQ _ _ _ _ (Region.free_spec hi hf) (by simpa using hr) (.inl ⟨hw, hy⟩) hS h
theorem anyS_end {n : Nat} {listed : Array Bool} {a : Act} {w : World} (hr : Region.ready md ops listed = []) (h : Q .normal a w) : wpAnyS P md ops Q S n listed a w := by
  cases n with
  | zero => exact ⟨hr, h⟩
  | succ n => exact ⟨fun _ => h, fun i hi => by rw [hr] at hi; cases hi⟩
theorem wp_region_S (S : World → Prop) {id : Nat} {a : Act} {w : World} {l : List Oper} (hm : P.follows .mixedOrders = true)
    (h : wpAnyS P .any l.toArray Q S l.toArray.size (Array.replicate l.toArray.size false) a w.drew) : (Code.region id l.toArray true).wp P Q a w :=
  wp_region_any hm (wpAny_of_S _ _ _ _ h)
end

/-- The full bar. -/
def fuF (R C : Nat) : Nat → Nat := fun i => if i < R then C else 0
theorem fuF_isB {R C : Nat} (hR : R ≤ 6) (hC : C ≤ 7) : IsB (fuF R C) := by
  refine ⟨fun i => ?_, fun i hi => ?_⟩
  · unfold fuF; split <;> omega
  · unfold fuF; rw [if_neg (by omega)]
theorem fuF_zero (C : Nat) : barH (fuF 0 C) = h0 := by unfold barH fuF; simp
theorem fuF_at (C k : Nat) : fuF (k + 1) C k = C ∧ ∀ i, i ≠ k → fuF (k + 1) C i = fuF k C i := by
  unfold fuF
  refine ⟨if_pos (by omega), fun i hi => ?_⟩
  by_cases h : i < k
  · rw [if_pos (by omega), if_pos h]
  · rw [if_neg (by omega), if_neg h]
set_option maxRecDepth 100000 in
set_option maxHeartbeats 2000000 in
theorem fullBar_any (R C : Nat) (w : World) (hR : R ≤ 6) (_hC7 : C ≤ 7) : Calls Try.prog 69 #[.int .i64 (R : Int), .int .i64 (C : Int)] w (Ret (hV (barH (fuF R C))) w) := by
  have k0 := (Blk.new w 60 (hC h0)).alloc (.cells (hC h0) 60)
  have k1 := Blk.new (w.alloc (.cells (hC h0) 60)) 60 (hC h0)
  rw [World.size_alloc] at k1
  have B := Lib.hid (b2 w (.cells (hC h0) 60) (.cells (hC h0) 60))
  replace k0 := Lib.hid k0
  replace k1 := Lib.hid k1
  have hz := Lib.hid (fuF_zero C)
  have hat := Lib.hid (fuF_at C)
  go_enter Try.func69, Try.ntmps69
  go_wp2
  go_loopw [6, 9] (fun _ i wr => ∃ k : Nat, k ≤ R ∧ i = .int .i64 k ∧ Blk wr w.heap.size 60 (hC h0) ∧ Blk wr (w.heap.size + 1) 60 (hC (barH (fuF k C))) ∧ Below w.heap.size w wr) (fun _ i _ => R - (intOf i).toNat)
  case atStart => exact ⟨0, by omega, rfl, k0.out, by rw [hz.out]; exact k1.out, B.out⟩
  case round =>
    clear k0 k1 B
    obtain ⟨k, hk, rfl, k0, k1, B⟩ := hrel
    by_cases hlt : k < R
    · have hlt' : (k : Int) < (R : Int) := by omega
      have hk6 : (k : Int) < 6 := by omega
      have z0 := cellK k1 (k := k) (by omega)
      have zf := k1.fr k
      have hbk := k1.setA (i := k) (.int .i64 (C : Int))
      rw [set_bar (g' := fuF (k + 1) C) (by omega) (hat.out k).1 (hat.out k).2] at hbk
      have k0' := Lib.hid (k0.other (B' := w.heap.size + 1) (i := k) (by omega) (.int .i64 (C : Int)))
      have hbk := Lib.hid hbk
      have B' := Lib.hid (B.setCell (p := ⟨w.heap.size + 1, k, none⟩) (by simp) (.int .i64 (C : Int)))
      clear k0 k1
      go_wp2
      go_roundw
      case rel => exact ⟨k + 1, by omega, by go_num, k0'.out, hbk.out, B'.out⟩
      case measure => simp [intOf]; omega
    · obtain rfl : k = R := by omega
      obtain ⟨c0, c1, c2, c3, c4, c5, c6⟩ := k1.c7
      obtain ⟨d0, d1, d2, d3, d4, d5, d6⟩ := k0.c7
      have hfr := k0.fr
      have hfin := Lib.hid (blk_set7 k0 (barH (fuF k C)))
      have hb := Lib.hid (below_grown (grown_put7 wr w.heap.size (barH (fuF k C))) (n := w.heap.size) (by have := B.size; omega) (by omega))
      have B := Lib.hid B
      clear k0 k1
      generalize fuF k C = g at *
      go_wp2
      exact bodyPost_ret (results_hp rfl hfin.out rfl) rfl (Ret.mk rfl (B.out.trans hb.out))
set_option maxRecDepth 100000 in
set_option maxHeartbeats 2000000 in
theorem taken_any (f : Nat → Nat) (r c : Nat) (w : World) (hf : IsB f) (hr : r < 6) (hc : c < f r) :
    Calls Try.prog 58 #[hV (barH f), hV (barH (woF f r c))] w (Ret (.agg #[.int .i64 (r : Int), .int .i64 (c : Int)]) w) := by
  have hw1 : ∀ k, k < r → woF f r c k = f k := fun k hk => by unfold woF; rw [if_neg (by omega)]
  have hw2 : woF f r c r = c := by unfold woF; rw [if_pos (Nat.le_refl _)]; omega
  have hf7 := hf.1
  have hB0 := b3 w (.cells (hC (barH f)) 60) (.cells (hC (barH (woF f r c))) 60) (.cells #[.int .i64 0, .int .i64 0] 38)
  have k0 := ((Blk.new w 60 (hC (barH f))).alloc (.cells (hC (barH (woF f r c))) 60)).alloc (.cells #[.int .i64 0, .int .i64 0] 38)
  have k1 := (Blk.new (w.alloc (.cells (hC (barH f)) 60)) 60 (hC (barH (woF f r c)))).alloc (.cells #[.int .i64 0, .int .i64 0] 38)
  have k2 := Blk.new ((w.alloc (.cells (hC (barH f)) 60)).alloc (.cells (hC (barH (woF f r c))) 60)) 38 #[.int .i64 0, .int .i64 0]
  rw [World.size_alloc] at k1 k2
  rw [World.size_alloc] at k2
  generalize woF f r c = g at *
  have k0 := Lib.hid k0
  have k1 := Lib.hid k1
  have k2 := Lib.hid k2
  have hB0 := Lib.hid hB0
  have hw1 := Lib.hid hw1
  have hw2 := Lib.hid hw2
  have hf7 := Lib.hid hf7
  clear hf
  go_enter Try.func58, Try.ntmps58
  go_wp2
  go_loopw [5] (fun i wr => ∃ k : Nat, k ≤ r ∧ i = .int .i64 k ∧ Blk wr w.heap.size 60 (hC (barH f)) ∧ Blk wr (w.heap.size + 1) 60 (hC (barH g)) ∧ Blk wr (w.heap.size + 1 + 1) 38 #[.int .i64 0, .int .i64 0] ∧ Below w.heap.size w wr) (fun i _ => r - (intOf i).toNat)
  case atStart => exact ⟨0, by omega, rfl, k0.out, k1.out, k2.out, hB0.out⟩
  case round =>
    clear k0 k1 k2 hB0
    obtain ⟨k, hk, rfl, k0, k1, k2, B⟩ := hrel
    have y0 := cellX (cellK k0 (k := k) (by omega))
    have y1 := cellX (cellK k1 (k := k) (by omega))
    have hk6 : (k : Int) < 6 := by omega
    have hk0 : (0 : Int) ≤ (k : Int) := by omega
    have hfk := hf7.out k
    have K0 := Lib.hid k0
    have K1 := Lib.hid k1
    have K2 := Lib.hid k2
    have B := Lib.hid B
    clear k0 k1 k2
    by_cases hlt : k < r
    · have e1 := hw1.out k hlt
      rw [e1] at y1
      clear e1
      obtain ⟨x, hx⟩ : ∃ x, Hid (f k = x) := ⟨_, Lib.hid rfl⟩
      rw [hx.out] at y0 y1
      go_wp2
      refine wp_region_ext (by kernel_rfl) (by kernel_rfl) ?_
      repeat (go_big_quiet_step (fail))
      refine wpQuiet_nil ?_
      rintro ⟨w4, hw4⟩
      dsimp only
      clear y0 y1
      go_wp2
      go_roundw
      case rel => exact ⟨k + 1, by omega, by go_num, K0.out.ext hw4, K1.out.ext hw4, K2.out.ext hw4, nextB B.out hw4⟩
      case measure => simp [intOf]; omega
    · obtain rfl : k = r := by omega
      rw [hw2.out] at y1
      have hne : ((f k : Int) == (c : Int)) = false := by rw [beq_eq_false_iff_ne]; omega
      obtain ⟨x, hx⟩ : ∃ x, Hid (f k = x) := ⟨_, Lib.hid rfl⟩
      rw [hx.out] at y0 hne hc hfk
      go_wp2
      refine wp_region_ext (by kernel_rfl) (by kernel_rfl) ?_
      repeat (go_big_quiet_step (fail))
      refine wpQuiet_nil ?_
      rintro ⟨w4, hw4⟩
      dsimp only
      clear y0 y1
      have z1 := cellK (K1.out.ext hw4) (k := k) (by omega)
      rw [hw2.out] at z1
      have Z2 := K2.out.ext hw4
      have z20 := Z2.c 0 rfl
      have z21 := Z2.c 1 rfl
      have zf := Z2.fr
      have hfin := Lib.hid ((Z2.setA (i := 0) (.int .i64 (k : Int))).setA (i := 1) (.int .i64 (c : Int)))
      have hb5 := Lib.hid (((nextB B.out hw4).setCell (p := ⟨w.heap.size + 1 + 1, 0, none⟩) (by simp; omega) (.int .i64 (k : Int))).setCell (p := ⟨w.heap.size + 1 + 1, 1, none⟩) (by simp; omega) (.int .i64 (c : Int)))
      clear Z2
      go_wp2
      refine bodyPost_ret (v := .agg #[.int .i64 (k : Int), .int .i64 (c : Int)]) ?_ rfl (Ret.mk rfl hb5.out)
      have q0 := hfin.out.c 0 rfl
      have q1 := hfin.out.c 1 rfl
      simp [results, Try.results58, go_sem, q0, q1]
/-- All pieces of a bar, by row, then by column. -/
def piF (f : Nat → Nat) : List (Nat × Nat) := (List.range 6).flatMap fun r => (List.range (f r)).map fun c => (r, c)
theorem biF_piF (f : Nat → Nat) : biF f = (piF f).map fun p => woF f p.1 p.2 := by
  unfold biF piF
  rw [List.map_flatMap]
  simp only [List.map_map]
  rfl
theorem mem_piF {f : Nat → Nat} {p : Nat × Nat} : p ∈ piF f ↔ p.1 < 6 ∧ p.2 < f p.1 := by
  unfold piF
  simp only [List.mem_flatMap, List.mem_range, List.mem_map]
  constructor
  · rintro ⟨r, h1, c, h2, rfl⟩; exact ⟨h1, h2⟩
  · rintro ⟨h1, h2⟩; exact ⟨p.1, h1, p.2, h2, rfl⟩
/-- The pieces that win. -/
def winP (f : Nat → Nat) : List (Nat × Nat) := (piF f).filter fun p => !cWin (woF f p.1 p.2)
theorem filter_congr' {α : Type} {l : List α} {p q : α → Bool} (h : ∀ x ∈ l, p x = q x) : l.filter p = l.filter q := List.filter_congr h
theorem chO_win {f : Nat → Nat} (h : IsB f) : ((bH (biF f)).filter fun x => !chF x) = (winP f).map fun p => barH (woF f p.1 p.2) := by
  unfold winP bH
  rw [biF_piF, List.map_map, List.filter_map]
  congr 1
  refine List.filter_congr fun p hp => ?_
  have hm := mem_piF.1 hp
  show (!chF (barH (woF f p.1 p.2))) = _
  rw [chF, unB_bar (h.wo _ _)]
/-- What First returns. -/
def firV (f : Nat → Nat) : Value := match (winP f).head? with
  | none => twoV 0 0 10
  | some p => twoV p.1 p.2 0
theorem chO_head {f : Nat → Nat} (h : IsB f) : chO f = (winP f).head?.map fun p => barH (woF f p.1 p.2) := by
  unfold chO
  rw [chO_win h]
  cases winP f <;> rfl
theorem First_no (r c : Int) (w : World) (h : szE r c ≠ 0) : Calls Try.prog 34 #[.int .i64 r, .int .i64 c] w (Only (twoV 0 0 (szE r c)) w) := by
  have S := Lib.hid (fun W => sizeError_any r c W)
  have hne : (szE r c != 0) = true := by simpa using h
  clear h
  generalize szE r c = e at *
  go_enter Try.func34, Try.ntmps34
  go_wp2_with (go_at_call 67; refine (S.out _).mono ?_; rintro e w1 ⟨rfl, rfl⟩)
  go_ret3
  exact Only.mk rfl
theorem Lost_no (r c : Int) (w : World) (h : szE r c ≠ 0) : Calls Try.prog 33 #[.int .i64 r, .int .i64 c] w (Only (errI (szE r c)) w) := by
  have S := Lib.hid (fun W => sizeError_any r c W)
  have hne : (szE r c != 0) = true := by simpa using h
  clear h
  generalize szE r c = e at *
  go_enter Try.func33, Try.ntmps33
  go_wp2_with (go_at_call 67; refine (S.out _).mono ?_; rintro e w1 ⟨rfl, rfl⟩)
  go_ret2
  exact Only.mk rfl
end Go.Proofs.Ytdafpjapepfniaa
