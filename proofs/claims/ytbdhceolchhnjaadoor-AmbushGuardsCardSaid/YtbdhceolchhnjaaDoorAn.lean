/- Layer 4, by the program: a field, or its error. -/
import Derived.Test.YtbdhceolchhnjaaDoorAm
namespace Go.Proofs.YtbdhceolchhnjaaDoor
open Go Go.RowKit

/-- A line that no field has. -/
def badL (m : Nat) (z : Int) : Bool := decide (z < 1) || decide (((pw m : Nat) : Int) ≤ z)
/-- The error of a field. -/
def fE (x : Int) (R : List Int) : Nat := if x < 1 ∨ 9 < x then 2 else if 12 < R.length then 3 else if R.any (badL x.toNat) then 2 else 0
theorem fE_ok {x : Int} {R : List Int} (h : fE x R = 0) : x = (x.toNat : Int) ∧ FieldP x.toNat R := by
  unfold fE at h
  split at h
  · omega
  · rename_i h1
    split at h
    · omega
    · rename_i h2
      split at h
      · omega
      · rename_i h3
        refine ⟨by omega, by omega, by omega, by omega, fun z hz => ?_⟩
        have h4 : badL x.toNat z = false := by
          cases g : badL x.toNat z
          · rfl
          · exact absurd (List.any_eq_true.2 ⟨z, hz, g⟩) h3
        unfold badL at h4
        simp only [Bool.or_eq_false_iff, decide_eq_false_iff_not] at h4
        omega
theorem fE_field {m : Nat} {R : List Int} (h : FieldP m R) : fE (m : Int) R = 0 := by
  unfold fE
  rw [if_neg (by have := h.pos; have := h.le; omega), if_neg (by have := h.few; omega), if_neg]
  rw [List.any_eq_true]
  rintro ⟨z, hz, h1⟩
  have := h.line z hz
  unfold badL at h1
  simp only [Bool.or_eq_true, decide_eq_true_eq, Int.toNat_natCast] at h1
  omega
theorem fE_lt (x : Int) (R : List Int) : fE x R < 4 := by
  unfold fE
  repeat' split
  all_goals omega
abbrev noField : Value := .agg #[.int .i64 0, .slice none 0 0]
section
variable (a : Option Addr) (n c : Nat) (R : List Int) (w : World)
set_option maxRecDepth 100000 in
theorem newField_early (x : Int) (hn : R.length = n) (h : x < 1 ∨ 9 < x ∨ 12 < n) : Calls Tryd.prog 51 #[.int .i64 x, .slice a n c] w (Ret (.tuple #[noField, .int .i64 (fE x R : Nat)]) w) := by
  have hR := Blk.new w 60 #[.int .i64 0, .slice none 0 0]
  have q0 := hR.fr 0
  have q1 := hR.fr 1
  have r0 : (w.alloc (.cells #[.int .i64 0, .slice none 0 0] 60)).cell? ⟨w.heap.size, 0, none⟩ = some (.int .i64 0) := hR.c 0 rfl
  have r1 : (w.alloc (.cells #[.int .i64 0, .slice none 0 0] 60)).cell? ⟨w.heap.size, 1, none⟩ = some (.slice none 0 0) := hR.c 1 rfl
  have hb := Lib.hid (b1 w (.cells #[.int .i64 0, .slice none 0 0] 60))
  clear hR
  by_cases h1 : x < 1 ∨ 9 < x
  · have he : fE x R = 2 := by unfold fE; rw [if_pos h1]
    rw [he]
    rcases h1 with h1 | h1
    · have g1 : decide (x < 1) = true := decide_eq_true h1
      clear h he hn
      go_enter Tryd.func51, Tryd.ntmps51
      go_wp2
      generalize w.alloc (.cells #[.int .i64 0, .slice none 0 0] 60) = V at *
      refine bodyPost_ret (v := .tuple #[noField, .int .i64 2]) (by simp [results, Tryd.results51, go_sem, r0, r1]) rfl ?_
      exact Ret.mk rfl hb.out
    · have g1 : decide (x < 1) = false := decide_eq_false (by omega)
      have g2 : decide (9 < x) = true := decide_eq_true h1
      clear h he hn
      go_enter Tryd.func51, Tryd.ntmps51
      go_wp2
      generalize w.alloc (.cells #[.int .i64 0, .slice none 0 0] 60) = V at *
      refine bodyPost_ret (v := .tuple #[noField, .int .i64 2]) (by simp [results, Tryd.results51, go_sem, r0, r1]) rfl ?_
      exact Ret.mk rfl hb.out
  · have h2 : 12 < n := by omega
    have he : fE x R = 3 := by unfold fE; rw [if_neg h1, if_pos (by omega)]
    rw [he]
    have g1 : decide (x < 1) = false := decide_eq_false (by omega)
    have g2 : decide (9 < x) = false := decide_eq_false (by omega)
    have g3 : (12 : Int) < (n : Int) := by omega
    clear h he hn h1
    go_enter Tryd.func51, Tryd.ntmps51
    go_wp2
    generalize w.alloc (.cells #[.int .i64 0, .slice none 0 0] 60) = V at *
    refine bodyPost_ret (v := .tuple #[noField, .int .i64 3]) (by simp [results, Tryd.results51, go_sem, r0, r1]) rfl ?_
    exact Ret.mk rfl hb.out
set_option maxRecDepth 100000 in
set_option maxHeartbeats 2000000 in
theorem newField_late (m : Nat) (h : Ints w a R) (hn : R.length = n) (h1 : 1 ≤ m) (h9 : m ≤ 9) (h12 : n ≤ 12) : Calls Tryd.prog 51 #[.int .i64 (m : Nat), .slice a n c] w (Ret (.tuple #[if fE m R = 0 then fV m a n c else noField, .int .i64 (fE m R : Nat)]) w) := by
  have hfe : Hid (fE (m : Int) R = if R.any (badL m) then 2 else 0) := Lib.hid (by unfold fE; rw [if_neg (by omega), if_neg (by omega)]; rfl)
  have hc : Hid (0 < n → ∃ b off, a = some ⟨b, off, none⟩ ∧ ∀ i, i < n → w.cell? ⟨b, off + i, none⟩ = some (.int .i64 (nth R i))) := Lib.hid (fun h0 => by
    obtain ⟨b, off, e, hc⟩ := ints_at h (by omega)
    exact ⟨b, off, e, fun i hi => hc i (by omega)⟩)
  clear h
  have A := Lib.hid (fun W => all_any m a n c h9 W)
  have hp1 := pw_pos m
  have hmem := Lib.hid (fun k (hk : k < n) => nth_mem (show k < R.length by omega))
  have hall : Hid ((∀ j, j < n → badL m (nth R j) = false) → R.any (badL m) = false) := Lib.hid (fun hh => by
    rw [List.any_eq_false]
    intro x hx
    obtain ⟨i, hi, rfl⟩ := mem_nth hx
    rw [hh i (by omega)]; simp)
  have g1 : decide ((m : Int) < 1) = false := decide_eq_false (by omega)
  have g2 : decide ((9 : Int) < (m : Int)) = false := decide_eq_false (by omega)
  have g3 : decide ((12 : Int) < (n : Int)) = false := decide_eq_false (by omega)
  obtain ⟨e, he⟩ : ∃ e, Hid (fE (m : Int) R = e) := ⟨_, Lib.hid rfl⟩
  rw [he.out] at hfe ⊢
  obtain ⟨fv, hfv⟩ : ∃ fv, Hid ((if e = 0 then fV m a n c else noField) = fv) := ⟨_, Lib.hid rfl⟩
  rw [hfv.out]
  clear hn
  have hA : Blk ((w.alloc (.cells #[.int .i64 0, .slice none 0 0] 60)).alloc (.cells #[.int .i64 (m : Nat), .slice a n c] 60)) (w.heap.size + 1) 60 #[.int .i64 (m : Nat), .slice a n c] := by
    have := Blk.new (w.alloc (.cells #[.int .i64 0, .slice none 0 0] 60)) 60 #[.int .i64 (m : Nat), .slice a n c]
    simpa using this
  have hR := (Blk.new w 60 #[.int .i64 0, .slice none 0 0]).alloc (.cells #[.int .i64 (m : Nat), .slice a n c] 60)
  have hb := b2 w (.cells #[.int .i64 0, .slice none 0 0] 60) (.cells #[.int .i64 (m : Nat), .slice a n c] 60)
  go_enter Tryd.func51, Tryd.ntmps51
  go_wp2
  generalize (w.alloc (.cells #[.int .i64 0, .slice none 0 0] 60)).alloc (.cells #[.int .i64 (m : Nat), .slice a n c] 60) = w1 at *
  go_loopw [8, 25] (fun _ i wr => ∃ k : Nat, k ≤ n ∧ i = .int .i64 k ∧ (∀ j, j < k → badL m (nth R j) = false) ∧ Below w1.heap.size w1 wr) (fun _ i _ => n - (intOf i).toNat)
  case atStart => exact ⟨0, by omega, rfl, fun j hj => absurd hj (by omega), Below.refl _ _⟩
  case round =>
    obtain ⟨k, hk, rfl, hno, B0⟩ := hrel
    replace hno := Lib.hid hno
    have x0 : wr.cell? ⟨w.heap.size + 1, 0, none⟩ = some (.int .i64 (m : Nat)) := cellB B0 (hA.c 0 rfl)
    have x1 : wr.cell? ⟨w.heap.size + 1, 1, none⟩ = some (.slice a n c) := cellB B0 (hA.c 1 rfl)
    have hR1 := hR.ext B0
    have q0 := hR1.fr 0
    have q1 := hR1.fr 1
    have r0 : wr.cell? ⟨w.heap.size, 0, none⟩ = some (.int .i64 0) := hR1.c 0 rfl
    have r1 : wr.cell? ⟨w.heap.size, 1, none⟩ = some (.slice none 0 0) := hR1.c 1 rfl
    by_cases hlt : k < n
    · obtain ⟨b, off, rfl, hcc⟩ := hc.out (by omega)
      have z0 := cellB B0 (cellB hb (hcc k hlt))
      clear hcc
      have hki : (k : Int) < (n : Int) := by omega
      have hmk := Lib.hid (hmem.out k hlt)
      obtain ⟨z, hz⟩ : ∃ z, Hid (nth R k = z) := ⟨_, Lib.hid rfl⟩
      rw [hz.out] at z0 hmk
      by_cases z1 : z < 1
      · have he2 : Hid (e = 2) := Lib.hid (by rw [hfe.out, if_pos (List.any_eq_true.2 ⟨z, hmk.out, by unfold badL; rw [decide_eq_true z1]; rfl⟩)])
        have hfv2 : Hid (fv = noField) := Lib.hid (by rw [← hfv.out, if_neg (by rw [he2.out]; omega)])
        rw [he2.out, hfv2.out]
        have d1 : decide (z < 1) = true := decide_eq_true z1
        have hb3 := Lib.hid (nextB hb B0)
        replace hR1 := Lib.hid hR1
        clear hA hR
        go_wp2
        have hS := Blk.set2 hR1.out (.int .i64 0) (.slice none 0 0)
        have s0 := hS.c 0 rfl
        have s1 := hS.c 1 rfl
        have hb5 := ((hb3.out).setCell (p := ⟨w.heap.size, 0, none⟩) (Nat.le_refl _) (.int .i64 0)).setCell (p := ⟨w.heap.size, 1, none⟩) (Nat.le_refl _) (.slice none 0 0)
        refine bodyPost_ret (v := .tuple #[.agg #[.int .i64 0, .slice none 0 0], .int .i64 2]) (by simp [results, Tryd.results51, go_sem, s0, s1]) rfl ?_
        exact Ret.mk rfl hb5
      · have d1 : decide (z < 1) = false := decide_eq_false z1
        by_cases z2 : z ≤ ((pw m - 1 : Nat) : Int)
        · have hbad : Hid (badL m z = false) := Lib.hid (by unfold badL; rw [d1, decide_eq_false (by omega)]; rfl)
          have d2 : decide (((pw m - 1 : Nat) : Int) < z) = false := decide_eq_false (by omega)
          generalize pw m - 1 = N at *
          go_wp2_with (go_at_call 78; refine (A.out _).mono ?_; rintro e w2 ⟨rfl, hb2⟩)
          go_roundw
          case rel => exact ⟨k + 1, by omega, by go_num, fun j hj => (by
            by_cases hjk : j = k
            · subst hjk; rw [hz.out]; exact hbad.out
            · exact hno.out j (by omega)), nextB B0 hb2⟩
          case measure => simp [intOf]; omega
        · have he2 : Hid (e = 2) := Lib.hid (by rw [hfe.out, if_pos (List.any_eq_true.2 ⟨z, hmk.out, by unfold badL; rw [d1, decide_eq_true (by omega)]; rfl⟩)])
          have hfv2 : Hid (fv = noField) := Lib.hid (by rw [← hfv.out, if_neg (by rw [he2.out]; omega)])
          rw [he2.out, hfv2.out]
          have d2 : decide (((pw m - 1 : Nat) : Int) < z) = true := decide_eq_true (by omega)
          generalize pw m - 1 = N at *
          go_wp2_with (go_at_call 78; refine (A.out _).mono ?_; rintro e w2 ⟨rfl, hb2⟩; replace hR1 := hR1.ext hb2; replace q0 := hR1.fr 0; replace q1 := hR1.fr 1; replace r0 : w2.cell? ⟨w.heap.size, 0, none⟩ = some (.int .i64 0) := hR1.c 0 rfl; replace r1 : w2.cell? ⟨w.heap.size, 1, none⟩ = some (.slice none 0 0) := hR1.c 1 rfl)
          have hS := Blk.set2 hR1 (.int .i64 0) (.slice none 0 0)
          have s0 := hS.c 0 rfl
          have s1 := hS.c 1 rfl
          have hb5 := ((nextB hb (nextB B0 hb2)).setCell (p := ⟨w.heap.size, 0, none⟩) (Nat.le_refl _) (.int .i64 0)).setCell (p := ⟨w.heap.size, 1, none⟩) (Nat.le_refl _) (.slice none 0 0)
          refine bodyPost_ret (v := .tuple #[.agg #[.int .i64 0, .slice none 0 0], .int .i64 2]) (by simp [results, Tryd.results51, go_sem, s0, s1]) rfl ?_
          exact Ret.mk rfl hb5
    · obtain rfl : k = n := by omega
      have he2 : Hid (e = 0) := Lib.hid (by rw [hfe.out, if_neg (by rw [hall.out hno.out]; simp)])
      have hfv2 : Hid (fv = fV m a k c) := Lib.hid (by rw [← hfv.out, if_pos he2.out])
      go_wp2
      have hS := Blk.set2 hR1 (.int .i64 (m : Nat)) (.slice a k c)
      have s0 := hS.c 0 rfl
      have s1 := hS.c 1 rfl
      have hb5 := ((nextB hb B0).setCell (p := ⟨w.heap.size, 0, none⟩) (Nat.le_refl _) (.int .i64 (m : Nat))).setCell (p := ⟨w.heap.size, 1, none⟩) (Nat.le_refl _) (.slice a k c)
      refine bodyPost_ret (v := .tuple #[.agg #[.int .i64 (m : Nat), .slice a k c], .int .i64 0]) (by simp [results, Tryd.results51, go_sem, s0, s1]) rfl ?_
      exact Ret.mk (by rw [he2.out, hfv2.out]; rfl) hb5
end
end Go.Proofs.YtbdhceolchhnjaaDoor
