/- Layer 5, by the program: read, treeOf. -/
import Derived.Test.YtfdaljekehkkaaaGreatDoorGe
import Derived.Test.YtfdaljekehkkaaaGreatDoorFb
namespace Go.Proofs.YtfdaljekehkkaaaGreatDoor
open Go Go.RowKit

theorem par_nil {t : Tr} {r : List UInt8} (h : Par 8 [] t r) : False := by
  have h2 := h.2
  have : 1 ≤ t.txt.length := by cases t <;> simp [Tr.txt]
  cases e : t.txt with
  | nil => rw [e] at this; simp at this
  | cons a b => rw [e] at h2; cases h2
set_option maxRecDepth 100000 in
set_option maxHeartbeats 2000000 in
theorem read_any : ∀ (k : Nat) (l : List UInt8) (w : World), l.length ≤ k → l.length ≤ 100 → Tab w → Calls Tryz.prog 52 #[strV l] w (ReadP l w) := by
  intro k
  have NIL : ∀ w, Calls Tryz.prog 52 #[strV []] w (ReadP [] w) := fun w => by
    have EN := eqE_nil
    have EG := eqG_eql
    have hp := Lib.hid (fun t r (h : Par 8 [] t r) => par_nil h)
    go_enter Tryz.func52, Tryz.ntmps52
    go_wp2
    go_ret3
    exact ⟨Below.refl _ _, .inr ⟨fun t r h => hp.out t r h, _, _, rfl⟩⟩
  induction k with
  | zero =>
    intro l w hk _ _
    obtain rfl : l = [] := List.length_eq_zero_iff.1 (by omega)
    exact NIL w
  | succ k ih =>
    intro l w hk h100 hT
    cases l with
    | nil => exact NIL w
    | cons c l =>
      simp only [List.length_cons] at hk h100
      by_cases h40 : c = 40
      · subst h40
        have F := Lib.hid (readFamily_any k ih l w (by omega) (by omega) hT)
        have I0 := idx0
        have EC := eqE_cons
        have EG := eqG_eql
        clear ih NIL
        go_enter Tryz.func52, Tryz.ntmps52
        go_wp2_with fail
        refine F.out.mono ?_
        rintro e w2 ⟨hb2, ⟨t, r, x, hpar, hx, rfl⟩ | ⟨hno, x, y, rfl⟩⟩
        · replace hpar := Lib.hid hpar
          replace hx := Lib.hid hx
          go_wp2
          go_ret3
          exact ⟨hb2, .inl ⟨_, _, _, hpar.out, hx.out, rfl⟩⟩
        · replace hno := Lib.hid hno
          go_wp2
          go_ret3
          exact ⟨hb2, .inr ⟨hno.out, _, _, rfl⟩⟩
      · have h40I : ((c.toNat : Int) == 40) = false := by
          rw [beq_eq_false_iff_ne]
          intro e
          exact h40 (UInt8.toNat_inj.1 (by have : (40 : UInt8).toNat = 40 := rfl; omega))
        have hc := c.toNat_lt
        have hP : Hid (∀ t r, Par 8 (c :: l) t r → 48 ≤ c.toNat ∧ c.toNat < 56) := Lib.hid (fun t r h => by
          cases t with
          | leaf b =>
            have h1 := h.1
            simp only [Good] at h1
            have h2 := h.2
            simp only [Tr.txt, List.cons_append, List.nil_append, List.cons.injEq] at h2
            rw [h2.1, UInt8.toNat_ofNat']
            omega
          | fam ks =>
            have h2 := h.2
            simp only [Tr.txt, List.cons_append, List.cons.injEq] at h2
            exact absurd h2.1 h40)
        have hY : Hid (48 ≤ c.toNat ∧ c.toNat < 56 → Par 8 (c :: l) (.leaf (c.toNat - 48)) l) := Lib.hid (fun h => by
          refine ⟨by simp only [Good]; omega, ?_⟩
          simp only [Tr.txt, List.cons_append, List.nil_append, List.cons.injEq, and_true]
          refine UInt8.toNat_inj.1 ?_
          rw [UInt8.toNat_ofNat']
          omega)
        have I0 := idx0
        have EC := eqE_cons
        have EG := eqG_eql
        have SL := sl1
        have B := Lib.hid (fun W => isBeast_any 8 ((c.toNat : Int) - 48) W)
        have hbe : Hid (beaB 8 ((c.toNat : Int) - 48) = true ↔ (48 ≤ c.toNat ∧ c.toNat < 56)) := Lib.hid (by
          unfold beaB
          simp only [Bool.and_eq_true, decide_eq_true_eq]
          omega)
        clear ih NIL
        generalize beaB 8 ((c.toNat : Int) - 48) = bb at *
        go_enter Tryz.func52, Tryz.ntmps52
        go_wp2
        refine wp_region_ext (by kernel_rfl) (by kernel_rfl) ?_
        repeat (go_big_quiet_step (with_reducible exact onlyE (B.out _)))
        refine wpQuiet_nil ?_
        rintro ⟨w2, hw2⟩
        dsimp only
        go_wp2
        go_ret3
        refine ⟨hw2, ?_⟩
        cases bb
        · exact .inr ⟨(fun t r h => by have := hbe.out.2 (hP.out t r h); cases this), _, _, rfl⟩
        · have h3 := hbe.out.1 rfl
          refine .inl ⟨_, _, leafV (c.toNat - 48), hY.out h3, ⟨rfl, by omega⟩, ?_⟩
          have : ((c.toNat : Int) - 48) = ((c.toNat - 48 : Nat) : Int) := by omega
          rw [this]; rfl
/-- The bytes are the tree of m beasts. -/
def IsTr (m : Nat) (l : List UInt8) (t : Tr) : Prop := Good 8 t ∧ l = t.txt ∧ t.set = pw m - 1
theorem IsTr.par {m : Nat} {l : List UInt8} {t : Tr} (h : IsTr m l t) : Par 8 l t [] := ⟨h.1, by rw [List.append_nil]; exact h.2.1⟩
theorem IsTr.one {m : Nat} {l : List UInt8} {t u : Tr} (h : IsTr m l t) (k : IsTr m l u) : t = u := (h.par.one (by omega) k.par).1
theorem cnt_full9 : ∀ m, m ≤ 9 → cntF (pw m - 1) 9 = m := by decide
/-- What treeOf returns. -/
def TreeR (m : Nat) (l : List UInt8) (w : World) (e : Ending) (w' : World) : Prop :=
  Below w.heap.size w w' ∧ ((∃ t v, IsTr m l t ∧ TreeV (fun b => w.heap.size ≤ b) w' t v ∧ e = .returned (.tuple #[v, .int .i64 0])) ∨ ((∀ t, ¬ IsTr m l t) ∧ e = .returned (.tuple #[.nilIface, .int .i64 5])))
theorem treeOf_bad (n : Int) (l : List UInt8) (w : World) (h : numB n = false) : Calls Tryz.prog 33 #[.int .i64 n, strV l] w (Only (.tuple #[.nilIface, .int .i64 2]) w) := by
  have K := Lib.hid (isNumber_any n w)
  rw [h] at K
  clear h
  go_enter Tryz.func33, Tryz.ntmps33
  go_wp2_with (go_at_call 32; refine K.out.mono ?_; rintro e w1 ⟨rfl, rfl⟩)
  go_ret2
  exact Only.mk rfl
theorem lenStr (l : List UInt8) (W : World) : (Builtin.len_ #[9] 3 #[strV l]).run Tryz.prog W = .ok (.int .i64 (l.length : Int)) W := by
  have : (⟨l.toArray⟩ : ByteArray).size = l.length := by show l.toArray.size = _; simp
  unfold strV
  go_simp
set_option maxRecDepth 100000 in
set_option maxHeartbeats 2000000 in
theorem treeOf_any (m : Nat) (l : List UInt8) (w : World) (h1 : 1 ≤ m) (h8 : m ≤ 8) (hT : Tab w) : Calls Tryz.prog 33 #[.int .i64 (m : Nat), strV l] w (TreeR m l w) := by
  have K := Lib.hid (isNumber_any (m : Nat) w)
  have hnb : numB (m : Nat) = true := by unfold numB; simp only [Bool.and_eq_true, decide_eq_true_eq]; omega
  rw [hnb] at K
  clear hnb
  have LS := lenStr l
  by_cases hlong : m + 3 * (m - 1) < l.length
  · have hno := Lib.hid (show ∀ t, ¬ IsTr m l t from fun t h => by
      have h2 := h.1.len (by omega)
      rw [h.2.2, cnt_full9 m (by omega), ← h.2.1] at h2
      omega)
    have i1 : ((m : Int) + 3 * ((m : Int) - 1)) < (l.length : Int) := by omega
    generalize l.length = len at *
    clear hT
    go_enter Tryz.func33, Tryz.ntmps33
    go_wp2_with (go_at_call 32; refine K.out.mono ?_; rintro e w1 ⟨rfl, rfl⟩)
    go_ret2
    exact ⟨Below.refl _ _, .inr ⟨hno.out, rfl⟩⟩
  · have i1 : (l.length : Int) ≤ ((m : Int) + 3 * ((m : Int) - 1)) := by omega
    have R := Lib.hid (read_any l.length l w (Nat.le_refl _) (by omega) hT)
    have A := Lib.hid (fun W => all_any m (by omega) W)
    have NN := neE_nil
    have NC := neE_cons
    have NG := eqG_neq
    have hp := full_bd h1 h8
    clear hlong hT
    obtain ⟨len, hlen⟩ : ∃ n, Hid (l.length = n) := ⟨_, Lib.hid rfl⟩
    rw [hlen.out] at i1 LS
    go_enter Tryz.func33, Tryz.ntmps33
    go_wp2_with (go_at_call 32; refine K.out.mono ?_; rintro e w1 ⟨rfl, rfl⟩)
    refine R.out.mono ?_
    rintro e w2 ⟨hb2, ⟨t, r, x, hpar, hx, rfl⟩ | ⟨hno, x, y, rfl⟩⟩
    · have U := Lib.hid (fun u (h : IsTr m l u) => hpar.one (by omega) h.par)
      cases r with
      | cons a r2 =>
        have hnp := Lib.hid (show ∀ u, ¬ IsTr m l u from fun u h => by have := (U.out u h).2; cases this)
        clear hpar hx
        go_wp2
        go_ret2
        exact ⟨hb2, .inr ⟨hnp.out, rfl⟩⟩
      | nil =>
        have hs := hx.set_lt
        obtain ⟨ty, pay, f, arg, rfl, hm, he, hnl, hC⟩ := hx.beasts
        replace hC := Lib.hid hC
        replace hx := Lib.hid hx
        replace hpar := Lib.hid hpar
        have hY : Hid (t.set = pw m - 1 → IsTr m l t) := Lib.hid fun h => ⟨hpar.out.1, by have := hpar.out.2; rwa [List.append_nil] at this, h⟩
        have hN : Hid (t.set ≠ pw m - 1 → ∀ u, ¬ IsTr m l u) := Lib.hid fun h u k => by
          have := (U.out u k).1
          subst this
          exact h k.2.2
        obtain ⟨s, hs2⟩ : ∃ s, Hid (t.set = s) := ⟨_, Lib.hid rfl⟩
        rw [hs2.out] at hC hY hN hs
        generalize pw m - 1 = f0 at *
        by_cases hsf : s = f0
        · have hI : ((s : Int) != (f0 : Int)) = false := by rw [bne_eq_false_iff_eq]; omega
          go_wp2_with (first
            | ((with_reducible refine (hC.out _).mono ?_); rintro e w3 ⟨rfl, rfl⟩)
            | (go_at_call 29; (with_reducible refine (A.out _).mono ?_); rintro e w3 ⟨rfl, rfl⟩))
          go_ret2
          exact ⟨hb2, .inl ⟨_, _, hY.out hsf, hx.out, rfl⟩⟩
        · have hI : ((s : Int) != (f0 : Int)) = true := by rw [bne_iff_ne]; omega
          go_wp2_with (first
            | ((with_reducible refine (hC.out _).mono ?_); rintro e w3 ⟨rfl, rfl⟩)
            | (go_at_call 29; (with_reducible refine (A.out _).mono ?_); rintro e w3 ⟨rfl, rfl⟩))
          go_ret2
          exact ⟨hb2, .inr ⟨hN.out hsf, rfl⟩⟩
    · have hnp := Lib.hid (show ∀ u, ¬ IsTr m l u from fun u h => hno _ _ h.par)
      clear hno
      go_wp2
      go_ret2
      exact ⟨hb2, .inr ⟨hnp.out, rfl⟩⟩
end Go.Proofs.YtfdaljekehkkaaaGreatDoor
