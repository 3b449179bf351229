/- Layer 2, the functions without loops: what each returns. -/
import Derived.Test.YtflbaadfbjpakaaProg
import Derived.Test.YtflbaadfbjpakaaPl
import Derived.WalkKit
import Derived.WalkSpells
import Derived.WalkLawsBesides
import Derived.Lib.Hide
namespace Go.Proofs.Ytflbaadfbjpakaa
open Go Go.RowKit

/-- A call returned v and turned nothing. -/
def Only (v : Value) (w : World) (e : Ending) (w' : World) : Prop := e = .returned v ∧ w = w'
theorem Only.mk {v v' : Value} {w : World} (h : v' = v) : Only v w (.returned v') w := ⟨by rw [h], rfl⟩
theorem Only.ret {v : Value} {w w' : World} {e : Ending} (h : Only v w e w') : Ret v w e w' := by obtain ⟨rfl, rfl⟩ := h; exact ⟨rfl, Below.refl _ _⟩

theorem onlyE {P : Program} {f : FuncId} {args : Array Value} {w : World} {x : Ext w} {v : Value} (h : Calls P f args x.world (Only v x.world)) :
    Calls P f args x.world fun e w'' => e = .returned v ∧ ∃ y : Ext w, w'' = y.world := callE (h.mono fun _ _ k => k.ret)
/-- c is a corner of a polygon of n corners. -/
def CornP (n c : Int) : Prop := 0 ≤ c ∧ c < n
instance (n c : Int) : Decidable (CornP n c) := by unfold CornP; infer_instance
/-- Two corners are neighbours. -/
def Nbr (n a b : Int) : Prop := (a + 1) % n = b ∨ (b + 1) % n = a
instance (n a b : Int) : Decidable (Nbr n a b) := by unfold Nbr; infer_instance
/-- A pair is a line of a polygon of n corners. -/
def LineP (n : Int) (q : Int × Int) : Prop := 0 ≤ q.1 ∧ q.1 + 2 ≤ q.2 ∧ q.2 < n ∧ ¬ (q.1 = 0 ∧ q.2 = n - 1)
instance (n : Int) (q : Int × Int) : Decidable (LineP n q) := by unfold LineP; infer_instance
/-- The order of lines. -/
def LexP (p q : Int × Int) : Prop := p.1 < q.1 ∨ p.1 = q.1 ∧ p.2 < q.2
instance (p q : Int × Int) : Decidable (LexP p q) := by unfold LexP; infer_instance
/-- The second line begins inside of the first one, and ends outside. -/
def CutP (p q : Int × Int) : Prop := p.1 < q.1 ∧ q.1 < p.2 ∧ p.2 < q.2
instance (p q : Int × Int) : Decidable (CutP p q) := by unfold CutP; infer_instance
def CrossP (p q : Int × Int) : Prop := CutP p q ∨ CutP q p
instance (p q : Int × Int) : Decidable (CrossP p q) := by unfold CrossP; infer_instance
def cmpI (a b : Int) : Int := if a < b then -1 else if b < a then 1 else 0
def cmpP (p q : Int × Int) : Int := if cmpI p.1 q.1 = 0 then cmpI p.2 q.2 else cmpI p.1 q.1
theorem nbr_line {n a b : Int} (h0 : 0 ≤ a) (h1 : a < n) (h2 : 0 ≤ b) (h3 : b < n) (h4 : a < b) : (¬ Nbr n a b) ↔ LineP n (a, b) := by
  have e1 : (a + 1) % n = a + 1 := Int.emod_eq_of_lt (by omega) (by omega)
  have e2 : (b + 1) % n = if b + 1 = n then 0 else b + 1 := by
    split
    · rename_i h; rw [h]; simp
    · exact Int.emod_eq_of_lt (by omega) (by omega)
  unfold Nbr LineP
  rw [e1, e2]
  split <;> simp only [] <;> omega

theorem after_any (n c : Int) (w : World) (h1 : 1 ≤ n) (h2 : 0 ≤ c) (h3 : c ≤ 1000) :
    Calls Try.prog 61 #[.int .i64 n, .int .i64 c] w (Only (.int .i64 ((c + 1) % n)) w) := by
  go_enter Try.func61, Try.ntmps61
  go_wp2
  go_ret
  exact Only.mk rfl
theorem ahead_any (n c : Int) (w : World) (h1 : 1 ≤ n) (h2 : n ≤ 1000) (h3 : 0 ≤ c) (h4 : c ≤ 1000) :
    Calls Try.prog 77 #[.int .i64 n, .int .i64 c] w (Only (.int .i64 ((c + n - 1) % n)) w) := by
  go_enter Try.func77, Try.ntmps77
  go_wp2
  go_ret
  exact Only.mk rfl
theorem isCorner_any (n c : Int) (w : World) :
    Calls Try.prog 59 #[.int .i64 n, .int .i64 c] w (Only (.bool (decide (CornP n c))) w) := by
  go_enter Try.func59, Try.ntmps59
  go_wp2
  all_goals go_ret
  all_goals exact Only.mk (ret_dec (by simp only [decide_eq_true_eq, Bool.false_eq_true, false_iff, CornP]; omega))
theorem neighbours_any (n a b : Int) (w : World) (h1 : 1 ≤ n) (h2 : 0 ≤ a) (h3 : a ≤ 1000) (h4 : 0 ≤ b) (h5 : b ≤ 1000) :
    Calls Try.prog 87 #[.int .i64 n, .int .i64 a, .int .i64 b] w (Only (.bool (decide (Nbr n a b))) w) := by
  cases g1 : ((a + 1) % n == b)
  · cases g2 : ((b + 1) % n == a)
    all_goals
      go_enter Try.func87, Try.ntmps87
      go_wp2_with (go_at_call 61; refine (after_any _ _ _ (by assumption) (by assumption) (by assumption)).mono ?_; rintro e w1 ⟨rfl, rfl⟩)
      go_ret
      exact Only.mk (ret_dec (by simp_all [Nbr]))
  · go_enter Try.func87, Try.ntmps87
    go_wp2_with (go_at_call 61; refine (after_any _ _ _ (by assumption) (by assumption) (by assumption)).mono ?_; rintro e w1 ⟨rfl, rfl⟩)
    go_ret
    exact Only.mk (ret_dec (by simp_all [Nbr]))

/-- The struct of two numbers. -/
abbrev pairV (q : Int × Int) : Value := .agg #[.int .i64 q.1, .int .i64 q.2]
theorem isLine_any (n a b : Int) (w : World) (h1 : 1 ≤ n) (h2 : n ≤ 1000) :
    Calls Try.prog 72 #[.int .i64 n, .agg #[.int .i64 a, .int .i64 b]] w (Ret (.bool (decide (LineP n (a, b)))) w) := by
  have ha := isCorner_any n a
  have hb := isCorner_any n b
  by_cases ca : CornP n a
  · by_cases cb : CornP n b
    · have nn := fun W => neighbours_any n a b W h1 ca.1 (by have := ca.2; omega) cb.1 (by have := cb.2; omega)
      simp only [decide_eq_true ca, decide_eq_true cb] at ha hb
      have cab : CornP n a ∧ CornP n b := ⟨ca, cb⟩
      unfold CornP at cab
      clear ca cb
      by_cases hlt : a < b
      · cases g : decide (Nbr n a b)
        all_goals
          simp only [g] at nn
          replace g := Lib.hid g
          go_enter Try.func72, Try.ntmps72
          go_wp2_with (first
            | (go_at_call 59; (with_reducible refine (ha _).mono ?_); rintro e w1 ⟨rfl, rfl⟩)
            | (go_at_call 59; (with_reducible refine (hb _).mono ?_); rintro e w1 ⟨rfl, rfl⟩)
            | (go_at_call 87; refine (nn _).mono ?_; rintro e w1 ⟨rfl, rfl⟩))
          go_ret
          exact Ret.mk (ret_dec (by rw [← nbr_line cab.1.1 cab.1.2 cab.2.1 cab.2.2 hlt]; have := g.out; simp_all)) (b1 _ _)
      · clear nn
        go_enter Try.func72, Try.ntmps72
        go_wp2_with (first
          | (go_at_call 59; (with_reducible refine (ha _).mono ?_); rintro e w1 ⟨rfl, rfl⟩)
          | (go_at_call 59; (with_reducible refine (hb _).mono ?_); rintro e w1 ⟨rfl, rfl⟩))
        go_ret
        exact Ret.mk (ret_dec (by simp only [Bool.false_eq_true, false_iff, LineP]; omega)) (b1 _ _)
    · simp only [decide_eq_true ca, decide_eq_false cb] at ha hb
      unfold CornP at ca cb
      go_enter Try.func72, Try.ntmps72
      go_wp2_with (first
        | (go_at_call 59; (with_reducible refine (ha _).mono ?_); rintro e w1 ⟨rfl, rfl⟩)
        | (go_at_call 59; (with_reducible refine (hb _).mono ?_); rintro e w1 ⟨rfl, rfl⟩))
      go_ret
      exact Ret.mk (ret_dec (by simp only [Bool.false_eq_true, false_iff, LineP]; omega)) (b1 _ _)
  · simp only [decide_eq_false ca] at ha
    unfold CornP at ca
    go_enter Try.func72, Try.ntmps72
    go_wp2_with (go_at_call 59; (with_reducible refine (ha _).mono ?_); rintro e w1 ⟨rfl, rfl⟩)
    go_ret
    exact Ret.mk (ret_dec (by simp only [Bool.false_eq_true, false_iff, LineP]; omega)) (b1 _ _)
theorem refIsLine_any (n a b : Int) (w : World) (h1 : 1 ≤ n) (h2 : n ≤ 1000) :
    Calls Try.prog 49 #[.int .i64 n, .agg #[.int .i64 a, .int .i64 b]] w (Ret (.bool (decide (LineP n (a, b)))) w) := by
  cases g1 : (a == 0)
  all_goals
    cases g2 : (b == n - 1)
    all_goals
      have G1 := Lib.hid g1
      have G2 := Lib.hid g2
      go_enter Try.func49, Try.ntmps49
      go_wp2
      all_goals go_ret
      all_goals
        replace G1 := G1.out
        replace G2 := G2.out
        simp only [beq_iff_eq, beq_eq_false_iff_ne, ne_eq] at G1 G2
        exact Ret.mk (ret_dec (by simp only [Bool.false_eq_true, false_iff, true_iff, LineP]; omega)) (b1 _ _)
end Go.Proofs.Ytflbaadfbjpakaa
