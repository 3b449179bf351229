/- A region that draws its order: loads come first, though an operation that makes memory does not wait for all of them; then a tail in one order. Also within a round of a loop over a function. -/
import Derived.Test.YtflbaadfbjpakaaT
import Derived.OrdersHeld
namespace Go.Proofs.Ytflbaadfbjpakaa
open Go Go.RowKit

section
variable {P : Program} {ops : Array Oper} {md : Region.Mode} {S : World → Prop} {Q : Exit → Act → World → Prop}

/-- Whatever order is picked from here on; S holds behind each of the first n operations. -/
def wpAnyC (P : Program) (md : Region.Mode) (ops : Array Oper) (Q : Exit → Act → World → Prop) (S : World → Prop) (n : Nat) : Nat → Array Bool → Act → World → Prop
  | 0, listed, a, w => Region.ready md ops listed = [] ∧ Q .normal a w
  | fuel + 1, listed, a, w =>
    (Region.ready md ops listed = [] → Q .normal a w) ∧
    ∀ i ∈ Region.ready md ops listed, wpOp P ops Q i (fun a' w' => (i < n → S w') ∧ wpAnyC P md ops Q S n fuel (listed.setIfInBounds i true) a' w') a w

theorem wpAny_of_C {n : Nat} : ∀ (fuel : Nat) (listed : Array Bool) (a : Act) (w : World), wpAnyC P md ops Q S n fuel listed a w → wpAny P md ops Q fuel listed a w
  | 0, _, _, _, h => h
  | fuel + 1, _, _, _, h => ⟨h.1, fun i hi => wpOp_mono (fun a' w' h' => wpAny_of_C fuel _ a' w' h'.2) (h.2 i hi)⟩

theorem wpAnyC_first {n i : Nat} {oi : Oper} {v : Value} (hi : ops[i]? = some oi) (hsel : ∀ (j : Nat) (o : Oper) cs b, ops[j]? = some o → o.op ≠ .select cs b)
    (hs : Region.sinkB md ops n = true) (hc : Region.chainB md ops n = true) (hn : n < ops.size) (hin : i < n)
    (hQ : ∀ c a w, Q (.panic c) (a.put oi.dst v) w → Q (.panic c) a w) :
    ∀ (fuel : Nat) (listed : Array Bool) (a : Act) (w : World), HeadInv md ops n listed →
      (∀ j oj, ops[j]? = some oj → j ≠ i → listed.getD j true = false → (∀ e ∈ oj.after, Region.binds md e = true → e.on ≠ i) → oi.apart ops oj = true) →
      i ∈ Region.ready md ops listed → YieldsIf P ops S oi v a → S w →
      wpAnyC P md ops Q S n fuel (listed.setIfInBounds i true) (a.put oi.dst v) w → wpAnyC P md ops Q S n (fuel + 1) listed a w := by
  intro fuel
  induction fuel with
  | zero =>
    intro listed a w inv _ hr hy hS H
    refine ⟨fun h => (by rw [h] at hr; cases hr), fun j hj => ?_⟩
    by_cases hji : j = i
    · subst hji; exact hy.wpOp hi hS ⟨fun _ => hS, H⟩
    · have := ready_mono hj hji
      rw [H.1] at this
      cases this
  | succ fuel ih =>
    intro listed a w inv hfree hr hy hS H
    have hun := (mem_ready.1 hr).1
    refine ⟨fun h => (by rw [h] at hr; cases hr), fun j hj => ?_⟩
    have hjn : j < n := Nat.lt_of_not_le fun h => tail_waits hs hc hn inv _ i rfl hin hun j h hj
    by_cases hji : j = i
    · subst hji; exact hy.wpOp hi hS ⟨fun _ => hS, H⟩
    · have h1 := H.2 j (ready_mono hj hji)
      obtain ⟨hjun, oj, hoj, hall⟩ := mem_ready.1 hj
      have hnot : ∀ e ∈ oj.after, Region.binds md e = true → e.on ≠ i := fun e he hb heq => by
        have h1 := hall e he hb
        rw [heq, getD_both hun] at h1
        cases h1
      have h2 := wpOp_putIf hoj (hfree j oj hoj hji hjun hnot) (fun cs b => hsel i oi cs b hi) (fun cs b => hsel j oj cs b hoj) hQ hy h1
      have hfree' : ∀ k ok, ops[k]? = some ok → k ≠ i → (listed.setIfInBounds j true).getD k true = false →
          (∀ e ∈ ok.after, Region.binds md e = true → e.on ≠ i) → oi.apart ops ok = true := fun k ok hk hki hun hno => by
        refine hfree k ok hk hki ?_ hno
        by_cases hjk : j = k
        · subst hjk; exact hjun
        · rw [getD_set_ne true hjk] at hun; exact hun
      refine wpOp_mono (fun a' w' h3 => ⟨fun _ => h3.2.1 hjn, ih (listed.setIfInBounds j true) a' w' (inv.set hj hjn) hfree' (ready_mono hr (Ne.symm hji)) h3.1 (h3.2.1 hjn) ?_⟩) h2
      rw [Array.setIfInBounds_comm _ _ hji]
      exact h3.2.2

/-- The head's operations, one at a time, as they are written: each leaves its value in every world of S, and nothing else. -/
def takes (P : Program) (ops : Array Oper) (S : World → Prop) (L : Act → Prop) : List Oper → Act → Prop
  | [], a => L a
  | o :: l, a => ∃ v, YieldsIf P ops S o v a ∧ takes P ops S L l (a.put o.dst v)

theorem wpAnyC_seq {n : Nat} : ∀ (l : List Oper) (k : Nat) (listed : Array Bool) (a : Act) (w : World), n ≤ k → (∀ j, l[j]? = ops[k + j]?) →
    Region.seqB md ops l.length k listed = true → wpList P ops Q l a w → wpAnyC P md ops Q S n l.length listed a w
  | [], _, _, _, _, _, _, hB, h => ⟨by simpa [Region.seqB] using hB, h⟩
  | o :: l, k, listed, a, w, hk, hl, hB, h => by
    have h0 : ops[k]? = some o := by simpa using (hl 0).symm
    simp only [List.length_cons, Region.seqB, Bool.and_eq_true, decide_eq_true_eq] at hB
    refine ⟨fun h1 => (by rw [hB.1] at h1; cases h1), fun i hi => ?_⟩
    rw [hB.1] at hi
    obtain rfl : i = k := by simpa using hi
    have hw : wpOp P ops Q i (wpList P ops Q l) a w := by unfold wpOp; simp only [h0]; exact h
    exact wpOp_mono (fun a' w' h' => ⟨fun h => absurd h (by omega), wpAnyC_seq l (i + 1) _ a' w' (by omega) (fun j => by have := hl (j + 1); simpa [Nat.add_assoc, Nat.add_comm 1 j] using this) hB.2 h'⟩) hw

/-- The head up to operation m, then operation m, which makes memory, then the tail. -/
theorem wpAnyC_lex {m : Nat} {om : Oper} {tail : List Oper} {w : World} (hsel : Region.noSelect ops = true) (hs : Region.sinkB md ops (m + 1) = true) (hc : Region.chainB md ops (m + 1) = true) (hn : m + 1 < ops.size)
    (hQ : ∀ c a w, ¬ Q (.panic c) a w) (hS : S w) (hm : ops[m]? = some om) (ht : ∀ j, tail[j]? = ops[m + 1 + j]?) :
    ∀ (l : List Oper) (k : Nat) (listed : Array Bool) (a : Act), (∀ j, j < l.length → l[j]? = ops[k + j]?) → k + l.length = m → HeadInv md ops (m + 1) listed →
    Region.lexHead md ops (tail.length + 1) l.length k listed = true →
    takes P ops S (fun a' => wpOp P ops Q m (fun a'' w'' => S w'' ∧ wpList P ops Q tail a'' w'') a' w) l a →
    wpAnyC P md ops Q S (m + 1) (l.length + (tail.length + 1)) listed a w
  | [], k, listed, a, _, hk, _, hB, h => by
    obtain rfl : k = m := by simpa using hk
    simp only [List.length_nil, Region.lexHead, Region.seqB, Bool.and_eq_true, decide_eq_true_eq] at hB
    rw [List.length_nil, Nat.zero_add]
    refine ⟨fun h1 => (by rw [hB.1] at h1; cases h1), fun i hi => ?_⟩
    rw [hB.1] at hi
    obtain rfl : i = k := by simpa using hi
    replace h : wpOp P ops Q i (fun a'' w'' => S w'' ∧ wpList P ops Q tail a'' w'') a w := h
    exact wpOp_mono (fun a' w' h' => ⟨fun _ => h'.1, wpAnyC_seq tail (i + 1) _ a' w' (Nat.le_refl _) ht hB.2 h'.2⟩) h
  | o :: l, k, listed, a, hl, hk, inv, hB, h => by
    have h0 : ops[k]? = some o := by simpa using (hl 0 (by simp)).symm
    simp only [List.length_cons, Region.lexHead, Bool.and_eq_true] at hB
    obtain ⟨⟨hr, hf⟩, hB'⟩ := hB
    have hkn : k < m + 1 := by simp only [List.length_cons] at hk; omega
    have hr' : k ∈ Region.ready md ops listed := by simpa using hr
    obtain ⟨v, hy, hK⟩ := h
    rw [List.length_cons, show l.length + 1 + (tail.length + 1) = l.length + (tail.length + 1) + 1 by omega]
    exact wpAnyC_first h0 (Region.noSelect_spec hsel) hs hc hn hkn (fun c a w h => absurd h (hQ _ _ _)) _ listed a w inv (Region.free_spec h0 hf) hr' hy hS
      (wpAnyC_lex hsel hs hc hn hQ hS hm ht l (k + 1) _ _ (fun j hj => by have := hl (j + 1) (by simp; omega); simpa [Nat.add_assoc, Nat.add_comm 1 j] using this) (by simp only [List.length_cons] at hk; omega) (inv.set hr' hkn) hB' hK)

end

section
variable {P : Program} {ops : Array Oper} {md : Region.Mode} {F : Fence} {m : Nat}
/-- Outside of the fence nothing ends but normally: then it is carried out so within it. -/
theorem wpAnyIn_of_wpAny (hF : ∀ f, F.fn f) (hd : F.depth = none) (hsem : ∀ (i : Nat) (o : Oper) ρ, ops[i]? = some o → o.semAt F.round ρ = execOp ρ o)
    (hcall : ∀ {f args w R}, Calls P f args w R → CallsIn F (m - 1) P f args w R) (hrow : ∀ {r args w R}, Rows P r args w R → RowsIn F (m - 1) P r args w R)
    {Post : Act → World → Prop} {Q : Exit → Act → World → Prop} (hQ : ∀ a w, Post a w → Q .normal a w) :
    ∀ (fuel : Nat) (listed : Array Bool) (a : Act) (w : World), wpAny P md ops (fun e a w => e = .normal ∧ Post a w) fuel listed a w → wpAnyIn F m P md ops Q fuel listed a w
  | 0, _, _, _, h => ⟨h.1, hQ _ _ h.2.2⟩
  | fuel + 1, listed, a, w, h => by
    refine ⟨fun h0 => hQ _ _ (h.1 h0).2, fun i hi => ?_⟩
    have h1 := wpOp_mono (fun a' w' h' => wpAnyIn_of_wpAny hF hd hsem hcall hrow hQ fuel _ a' w' h') (h.2 i hi)
    generalize wpAnyIn F m P md ops Q fuel (listed.setIfInBounds i true) = K at h1 ⊢
    unfold wpOp at h1
    unfold wpOpIn
    split
    · rename_i ho; simp only [ho] at h1; exact h1
    · rename_i o ho
      simp only [ho] at h1
      split
      · rename_i hw
        simp only [hw, if_true] at h1
        rcases h1 with h1 | ⟨_, ⟨_, _, h2, _⟩⟩
        · unfold Oper.wp at h1
          unfold Oper.wpIn
          refine ⟨fun f _ => hF f, ?_⟩
          rw [hsem i o _ ho]
          generalize (execOp a.eval o).run P w = r at *
          cases r with
          | ok x w' =>
            cases x <;> simp only [Oper.upon] at h1 <;> simp only [Oper.uponIn]
            case value u => exact h1
            case skip => exact h1
            case defer d => exact h1
            case enter f args =>
              refine ⟨(fun h => by rw [hd] at h; cases h), (hcall h1).mono fun e w'' he => ?_⟩
              cases e with
              | returned u => exact he
              | panicked c => exact absurd he.1 (by simp)
              | outgrown => obtain ⟨_, _, h2, _⟩ := he; cases h2
            case row r args => exact ⟨(fun h => by rw [hd] at h; cases h), hrow h1⟩
          | halt x w' =>
            cases x <;> simp only [Oper.upon] at h1 <;> simp only [Oper.uponIn]
            case panic u => exact absurd h1.1 (by simp)
        · cases h2
      · rename_i hw; simp only [hw] at h1; exact ⟨fun f _ => hF f, h1⟩
theorem rowsIn_wide {n : Nat} {r : String} {args : Array Value} {w : World} {R : Value → World → Prop} (h : Rows P r args w R) : RowsIn Fence.wide n P r args w R :=
  fun c cs _ => let ⟨v, w', k, s⟩ := h c cs; ⟨v, w', k, stepsIn_wide.2 s⟩

/-- Loads, then one operation that makes memory, then a tail: within a round. -/
theorem wpIn_round_takes (l0 : Nat) {id : Nat} {Q : Exit → Act → World → Prop} {a : Act} {w : World} {l : List Oper} {om : Oper} (k : Nat) (S : World → Prop) (Post : Act → World → Prop) (hm : P.follows .mixedOrders = true)
    (hom : l[k]? = some om) (hB : Region.lexTailB .any l.toArray (k + 1) = true) (hH : Region.lexHead .any l.toArray ((l.drop (k + 1)).length + 1) k 0 (Array.replicate l.toArray.size false) = true) (hnd : notDefer l = true)
    (hS : S w.drew) (hQ : ∀ a w, Post a w → Q .normal a w)
    (h : takes P l.toArray S (fun a' => wpOp P l.toArray (fun e a w => e = .normal ∧ Post a w) k (fun a'' w'' => S w'' ∧ wpList P l.toArray (fun e a w => e = .normal ∧ Post a w) (l.drop (k + 1)) a'' w'') a' w.drew) (l.take k) a) :
    (Code.region id l.toArray true).wpIn (Fence.wide.inRound l0) m P Q a w := by
  refine wpIn_region_any hm ?_
  have hsem : ∀ (i : Nat) (o : Oper) ρ, l.toArray[i]? = some o → o.semAt (Fence.wide.inRound l0).round ρ = execOp ρ o := fun i o ρ ho => Oper.semAt_eq _ _ _ (notDefer_at hnd (List.mem_of_getElem? (by simpa using ho)))
  refine wpAnyIn_of_wpAny (F := Fence.wide.inRound l0) (m := m) (fun _ => trivial) rfl hsem (fun h => CallsIn.inRound l0 (callsIn_wide.2 h)) (fun h => rowsIn_wide h) hQ _ _ _ _ (wpAny_of_C (S := S) (n := k + 1) _ _ _ _ ?_)
  simp only [Region.lexTailB, Bool.and_eq_true, decide_eq_true_eq] at hB
  obtain ⟨⟨⟨⟨hsel, hn⟩, hs⟩, hc⟩, _⟩ := hB
  have hlen : k < l.length := by simp at hn; omega
  have htl : (l.take k).length = k := by simp; omega
  have inv0 : HeadInv .any l.toArray (k + 1) (Array.replicate l.toArray.size false) :=
    ⟨by simp, fun j oj _ hl => (by rw [getD_replicate_false] at hl; cases hl), fun t _ ht => getD_in (by simpa using ht) (getD_replicate_false _ _)⟩
  have := wpAnyC_lex (P := P) (md := .any) (S := S) (Q := fun e a w => e = .normal ∧ Post a w) (m := k) (om := om) (tail := l.drop (k + 1)) (w := w.drew) hsel hs hc hn (fun c a w h => by cases h.1) hS (by simpa using hom) (fun j => by simp [List.getElem?_drop])
    (l.take k) 0 _ a (fun j hj => by
      have hj' : j < k := by rw [htl] at hj; exact hj
      simp [hj']) (by simpa using htl) inv0 (by rw [htl]; exact hH) h
  rw [htl] at this
  have e : k + ((l.drop (k + 1)).length + 1) = l.toArray.size := by simp; omega
  rwa [e] at this
end
end Go.Proofs.Ytflbaadfbjpakaa
