/- Layer 4: what the dogs keep to who go by a pairing, for a text. -/
import Derived.Test.YtbdhceolchhnjaaDoorUb
import Derived.Test.YtbdhceolchhnjaaDoorTa
namespace Go.Proofs.YtbdhceolchhnjaaDoor
open Go Go.RowKit

theorem psB_emp {m b : Nat} (hb : b ≠ 46) : ∀ k, k ≤ m → psB (emp m) b k = 0 := by
  intro k
  induction k with
  | zero => intro _; rfl
  | succ k ih =>
    intro h
    rw [psB, emp_at (by omega), if_neg (by omega), ih (by omega)]
theorem emp_ok (m : Nat) : okS (emp m) = true := okS_of fun i hi => by
  rw [emp_size] at hi
  exact .inr (.inr (emp_at hi))
/-- The pairs are held. -/
structure HelS (m : Nat) (ps : List (Int × Int)) (s : ByteArray) : Prop where
  size : s.size = m
  ok : okS s = true
  held : Held ps (psB s 119 m) (psB s 100 m)
theorem HelS.emp (m : Nat) (ps : List (Int × Int)) : HelS m ps (emp m) := ⟨emp_size m, emp_ok m, by rw [psB_emp (by omega) m (Nat.le_refl _)]; exact held_none _ _⟩
theorem emp_win {m : Nat} {R : List Int} {ps : List (Int × Int)} (hi : isP m R ps = true) (hm : 1 ≤ m) (nx : Bool) : win m R (psB (emp m) 119 m) (psB (emp m) 100 m) nx = false := by
  rw [psB_emp (by omega) m (Nat.le_refl _), psB_emp (by omega) m (Nat.le_refl _)]
  exact pairing_win hi hm nx
theorem HelS.full {m : Nat} {R : List Int} {ps : List (Int × Int)} {s : ByteArray} (hi : isP m R ps = true) (h : HelS m ps s) (h0 : dotN s m = 0) (nx : Bool) : win m R (psB s 119 m) (psB s 100 m) nx = false := by
  have hf : frL m (psB s 119 m) (psB s 100 m) = [] := by
    cases e : frL m (psB s 119 m) (psB s 100 m) with
    | nil => rfl
    | cons a l =>
      have h1 : a ∈ frL m (psB s 119 m) (psB s 100 m) := by rw [e]; exact List.mem_cons_self
      obtain ⟨h2, h3⟩ := (free_dot h.size h.ok).1 h1
      exact absurd h3 (dotN_ne h0 a h2)
  rw [win_full _ hf]
  exact held_has hi (psB_pos s m) h.held
/-- A taken partner is the dogs'. -/
theorem HelS.mate {m : Nat} {R : List Int} {ps : List (Int × Int)} {s : ByteArray} {ck t : Nat} (hi : isP m R ps = true) (h : HelS m ps s) (hck : ck < m) (hd : bytA s ck = 46) (ha : ansP ps (ck : Nat) = (t : Int)) (hne : bytA (setS s ck 119) t ≠ 46) : (psB s 100 m).testBit t = true := by
  have hs := (free_dot h.size h.ok).2 ⟨hck, hd⟩
  rcases ans_some hi (s := ck) with ⟨h1, _⟩ | ⟨t', h1, h2, h3, p, hp, h4⟩
  · rw [ha] at h1; omega
  · have ht : t = t' := by rw [ha] at h1; omega
    subst ht
    obtain ⟨t2, e1, _, e3, _⟩ := (held_step hi (psB_pos s m) h.held hs).1 p hp (by rcases h4 with rfl | rfl; exact .inl rfl; exact .inr rfl)
    have ht : t = t2 := by rw [ha] at e1; omega
    subst ht
    rw [setS_at s ck 119 t (by omega) (by have := h.size; omega), if_neg h3] at hne
    rw [psB_test] at e3 ⊢
    simp only [h2, decide_true, Bool.true_and, decide_eq_false_iff_not] at e3
    have := okS_at h.ok (show t < s.size by have := h.size; omega)
    simp only [h2, decide_true, Bool.true_and, decide_eq_true_eq]
    omega
theorem HelS.cases {m : Nat} {R : List Int} {ps : List (Int × Int)} {s : ByteArray} {ck : Nat} (hF : FieldP m R) (hi : isP m R ps = true) (h : HelS m ps s) (hck : ck < m) (hd : bytA s ck = 46) :
    (∃ t : Nat, ansP ps (ck : Nat) = (t : Int) ∧ t < m ∧ bytA (setS s ck 119) t = 46 ∧ HelS m ps (setS (setS s ck 119) t 100)) ∨
    ((ansP ps (ck : Nat) = -1 ∨ ∃ t : Nat, ansP ps (ck : Nat) = (t : Int) ∧ t < m ∧ bytA (setS s ck 119) t ≠ 46) ∧ (HelS m ps (setS s ck 119)) ∧ (∀ j, j < m → bytA (setS s ck 119) j = 46 → HelS m ps (setS (setS s ck 119) j 100))) := by
  have hs := (free_dot h.size h.ok).2 ⟨hck, hd⟩
  have h1s : (setS s ck 119).size = m := by rw [setS_size]; exact h.size
  have h1o := (setS_ok (b := 119) hF h.size h.ok hck (by omega)).2
  have eW := (setS_W h.size hck hd).1
  have eD := (setS_W h.size hck hd).2
  unfold tkW at eW
  unfold tkD at eD
  rw [if_pos rfl, or_eq_add (frL_mem.1 hs).2.1] at eW
  rw [if_pos rfl] at eD
  have st := (held_step hi (psB_pos s m) h.held hs).2
  have one : (∀ t : Nat, ansP ps (ck : Nat) = (t : Int) → bytA (setS s ck 119) t ≠ 46) → HelS m ps (setS s ck 119) := fun hh => ⟨h1s, h1o, by
    rw [eW, eD]
    exact st _ (fun i hi => hi) (fun t ht => h.mate hi hck hd ht (hh t ht))⟩
  have two : ∀ j, j < m → bytA (setS s ck 119) j = 46 → (∀ t : Nat, ansP ps (ck : Nat) = (t : Int) → t = j ∨ bytA (setS s ck 119) t ≠ 46) → HelS m ps (setS (setS s ck 119) j 100) := fun j hj hjd hh => by
    have h2o := (setS_ok (b := 100) hF h1s h1o hj (by omega)).2
    refine ⟨by rw [setS_size]; exact h1s, h2o, ?_⟩
    have fW := (setS_D h1s hj hjd).1
    have fD := (setS_D h1s hj hjd).2
    unfold tkW at fW
    unfold tkD at fD
    rw [if_neg (show ¬ ((1 : Nat) = 0) by omega)] at fW fD
    rw [fW, fD, eW, eD]
    refine st _ (fun i hi => by rw [Nat.testBit_or, hi]; rfl) (fun t ht => ?_)
    rcases hh t ht with rfl | hne
    · rw [Nat.testBit_or, pw, Nat.testBit_two_pow]; simp
    · rw [Nat.testBit_or, h.mate hi hck hd ht hne]; rfl
  rcases ans_some hi (s := ck) with ⟨h1, _⟩ | ⟨t, h1, h2, _, _⟩
  · right
    exact ⟨.inl h1, one fun t ht => by rw [h1] at ht; omega, fun j hj hjd => two j hj hjd fun t ht => by rw [h1] at ht; omega⟩
  · by_cases e : bytA (setS s ck 119) t = 46
    · left
      exact ⟨t, h1, h2, e, two t h2 e fun t' ht' => .inl (by rw [h1] at ht'; omega)⟩
    · right
      have same : ∀ t' : Nat, ansP ps (ck : Nat) = (t' : Int) → bytA (setS s ck 119) t' ≠ 46 := fun t' ht' => by
        have : t' = t := by rw [h1] at ht'; omega
        rw [this]; exact e
      exact ⟨.inr ⟨t, h1, h2, e⟩, one same, fun j hj hjd => two j hj hjd fun t' ht' => .inr (same t' ht')⟩
set_option maxRecDepth 100000 in
theorem placed_none (s : ByteArray) (b : Nat) (w : World) : Calls Tryd.prog 33 #[.string s, .int .i64 (-1), .int .u8 (b : Nat)] w (Ret (.string s) w) := by
  obtain ⟨cap, V, hcv, hbV, hVlt, hB, hfr⟩ := bytes_new s w
  have hbk := bytes_back _ cap w.heap.size _ hB
  have hsz : s.data.toList.length = s.size := by simp
  rw [hsz] at hbk
  have hfin : (⟨s.data.toList.toArray⟩ : ByteArray) = s := by cases s; simp
  rw [hfin] at hbk
  replace hbV := Lib.hid hbV
  clear hfr hB hsz hfin
  go_enter Tryd.func33, Tryd.ntmps33
  go_wp2
  go_ret
  exact Ret.mk rfl hbV.out
end Go.Proofs.YtbdhceolchhnjaaDoor
