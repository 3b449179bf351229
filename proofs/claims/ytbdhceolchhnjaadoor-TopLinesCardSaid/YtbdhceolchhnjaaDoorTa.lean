/- Layer 4: a free spot that a number chooses. -/
import Derived.Test.YtbdhceolchhnjaaDoorSc
import Derived.Test.YtbdhceolchhnjaaDoorRb
namespace Go.Proofs.YtbdhceolchhnjaaDoor
open Go Go.RowKit

theorem dotN_set {s : ByteArray} {k b : Nat} (hk : k < s.size) (hd : bytA s k = 46) (hb : b < 256) (hb2 : b ≠ 46) : ∀ j, dotN (setS s k b) j + (if k < j then 1 else 0) = dotN s j := by
  intro j
  induction j with
  | zero => rfl
  | succ j ih =>
    rw [dotN, dotN, setS_at s k b j hb hk]
    by_cases e : j = k
    · subst e
      rw [if_pos rfl, if_neg hb2, if_pos hd, if_pos (by omega)]
      rw [if_neg (by omega)] at ih
      omega
    · rw [if_neg e]
      have h2 : (if k < j + 1 then 1 else 0) = (if k < j then 1 else 0) := by
        by_cases h1 : k < j
        · rw [if_pos h1, if_pos (by omega)]
        · rw [if_neg h1, if_neg (by omega)]
      rw [h2]
      generalize (if k < j then 1 else 0) = z at *
      by_cases e2 : bytA s j = 46
      · rw [if_pos e2]; omega
      · rw [if_neg e2]; exact ih
/-- A free spot was returned. -/
def Dot (s : ByteArray) (n : Nat) (w : World) (e : Ending) (w' : World) : Prop := ∃ k : Nat, e = .returned (.int .i64 k) ∧ k < n ∧ bytA s k = 46 ∧ w = w'
theorem dotN_ne {s : ByteArray} {n : Nat} (h : dotN s n = 0) : ∀ i, i < n → bytA s i ≠ 46 := by
  induction n with
  | zero => intro i hi; omega
  | succ n ih =>
    rw [dotN] at h
    by_cases e : bytA s n = 46
    · rw [if_pos e] at h; omega
    · rw [if_neg e] at h
      intro i hi
      by_cases h1 : i = n
      · subst h1; exact e
      · exact ih (by omega) i (by omega)
/-- Small numbers that came in. -/
def Bys (w : World) (a : Option Addr) (n : Nat) : Prop := n = 0 ∨ ∃ b off, a = some ⟨b, off, none⟩ ∧ ∀ i, i < n → ∃ v : Nat, v ≤ 255 ∧ w.cell? ⟨b, off + i, none⟩ = some (.int .u8 (v : Nat))
theorem Bys.next {w w' : World} {a : Option Addr} {n : Nat} (h : Bys w a n) (hb : Below w.heap.size w w') : Bys w' a n := by
  rcases h with h | ⟨b, off, e, hc⟩
  · exact .inl h
  · exact .inr ⟨b, off, e, fun i hi => by obtain ⟨v, hv, h⟩ := hc i hi; exact ⟨v, hv, cellB hb h⟩⟩
def strOf : Value → ByteArray
  | .string s => s
  | _ => ByteArray.empty
/-- What the dogs keep to, for a text. -/
structure SafS (m : Nat) (R : List Int) (s : ByteArray) (nx : Bool) : Prop where
  size : s.size = m
  ok : okS s = true
  safe : Safe m R (psB s 119 m) (psB s 100 m) nx
theorem SafS.wolf {m : Nat} {R : List Int} {s : ByteArray} {k : Nat} (h : SafS m R s false) (hF : FieldP m R) (hk : k < m) (hd : bytA s k = 46) : SafS m R (setS s k 119) true := by
  refine ⟨by rw [setS_size]; exact h.size, (setS_ok hF h.size h.ok hk (by omega)).2, ?_⟩
  have hi := (free_dot h.size h.ok).2 ⟨hk, hd⟩
  rw [(setS_W h.size hk hd).1, (setS_W h.size hk hd).2]
  unfold tkW tkD
  rw [if_pos rfl, if_pos rfl, or_eq_add (frL_mem.1 hi).2.1]
  exact safe_wolf h.safe hi
theorem SafS.dog {m : Nat} {R : List Int} {s : ByteArray} (h : SafS m R s true) (hF : FieldP m R) (h0 : frL m (psB s 119 m) (psB s 100 m) ≠ []) :
    ∃ k, mnL (dgT m R (psB s 119 m) (psB s 100 m)) (frL m (psB s 119 m) (psB s 100 m)) = k ∧ k < m ∧ bytA s k = 46 ∧ SafS m R (setS s k 100) false := by
  obtain ⟨h1, h2⟩ := mnL_spec (dgT m R (psB s 119 m) (psB s 100 m)) _ h0
  obtain ⟨hk, hd⟩ := (free_dot h.size h.ok).1 h1
  refine ⟨_, rfl, hk, hd, by rw [setS_size]; exact h.size, (setS_ok hF h.size h.ok hk (by omega)).2, ?_⟩
  rw [(setS_D h.size hk hd).1, (setS_D h.size hk hd).2]
  unfold tkW tkD
  rw [if_neg (show ¬ ((1 : Nat) = 0) by omega), if_neg (show ¬ ((1 : Nat) = 0) by omega), or_eq_add (frL_mem.1 h1).2.2]
  refine safe_dog h.safe h1 fun i hi => ?_
  have := h2 i hi
  unfold dgT at this
  rwa [or_eq_add (frL_mem.1 h1).2.2, or_eq_add (frL_mem.1 hi).2.2] at this
theorem SafS.wn {m : Nat} {R : List Int} {s : ByteArray} {nx : Bool} (h : SafS m R s nx) : win m R (psB s 119 m) (psB s 100 m) nx = false := safe_win _ _ _ _ rfl (psB_pos s m) h.safe
theorem SafS.full {m : Nat} {R : List Int} {s : ByteArray} {nx : Bool} (h : SafS m R s nx) (h0 : dotN s m = 0) (nx' : Bool) : win m R (psB s 119 m) (psB s 100 m) nx' = false := by
  have hf : frL m (psB s 119 m) (psB s 100 m) = [] := by
    cases e : frL m (psB s 119 m) (psB s 100 m) with
    | nil => rfl
    | cons a l =>
      have h1 : a ∈ frL m (psB s 119 m) (psB s 100 m) := by rw [e]; exact List.mem_cons_self
      obtain ⟨h2, h3⟩ := (free_dot h.size h.ok).1 h1
      exact absurd h3 (dotN_ne h0 a h2)
  have := h.wn
  rw [win_full _ hf] at this ⊢
  exact this
theorem free_pos {m : Nat} {s : ByteArray} (hs : s.size = m) (hok : okS s = true) (h : dotN s m ≠ 0) : frL m (psB s 119 m) (psB s 100 m) ≠ [] := by
  obtain ⟨i, hi, hb⟩ := dotN_pos m h
  intro hnil
  have := (free_dot hs hok).2 ⟨hi, hb⟩
  rw [hnil] at this; cases this
end Go.Proofs.YtbdhceolchhnjaaDoor
