/- Layer 1: the specification's IsPen. -/
import Derived.Test.YtnjegnlfdbbleaaD
namespace Go.Proofs.Ytnjegnlfdbbleaa
open Go Go.RowKit

/-- The slice at a holds the n points p 0, p 1, ... -/
def Pts (w : World) (a : Option Addr) (n : Nat) (p : Nat → Int × Int) : Prop :=
  n = 0 ∨ ∃ b off, a = some ⟨b, off, none⟩ ∧ ∀ i, i < n → w.cell? ⟨b, off + i * 2, none⟩ = some (.int .i64 (p i).1) ∧ w.cell? ⟨b, off + i * 2 + 1, none⟩ = some (.int .i64 (p i).2)
theorem Pts.next {w w' : World} {a : Option Addr} {n : Nat} {p : Nat → Int × Int} (h : Pts w a n p) (hb : Below w.heap.size w w') : Pts w' a n p := by
  rcases h with h | ⟨b, off, e, hc⟩
  · exact .inl h
  · exact .inr ⟨b, off, e, fun i hi => ⟨cellB hb (hc i hi).1, cellB hb (hc i hi).2⟩⟩

def Ok1 (n : Nat) (p : Nat → Int × Int) (i : Nat) : Prop := Sm 50 (p i) ∧ p i ≠ p ((i + 1) % n)
def Ok2 (n : Nat) (p : Nat → Int × Int) (i k : Nat) : Prop := (k + 1) % n ≠ i → ¬ MeetP (p i) (p ((i + 1) % n)) (p k) (p ((k + 1) % n))
def Ok3 (n : Nat) (p : Nat → Int × Int) (i : Nat) : Prop := ¬ OnP (p i) (p ((i + 1) % n)) (p ((i + 2) % n)) ∧ ¬ OnP (p ((i + 1) % n)) (p ((i + 2) % n)) (p i)
instance (n p i) : Decidable (Ok1 n p i) := by unfold Ok1; infer_instance
instance (n p i k) : Decidable (Ok2 n p i k) := by unfold Ok2; infer_instance
instance (n p i) : Decidable (Ok3 n p i) := by unfold Ok3; infer_instance
/-- The n points p 0, p 1, .. are the posts of a pen. -/
def PenP (n : Nat) (p : Nat → Int × Int) : Prop :=
  3 ≤ n ∧ n ≤ 10 ∧ (∀ i, i < n → Ok1 n p i) ∧ ∀ i, i < n → Ok3 n p i ∧ ∀ k, k < n → i + 2 ≤ k → Ok2 n p i k
instance (n p) : Decidable (PenP n p) := by unfold PenP; infer_instance

set_option maxHeartbeats 1600000 in
theorem isPen_no (a : Option Addr) (n c : Nat) (w : World) (hn : n < 3 ∨ 10 < n) (hm : n ≤ 4611686018427387904) :
    Calls Try.prog 15 #[.slice a n c] w (Ret (.bool false) w) := by
  rcases hn with hn | hn
  all_goals
    go_enter Try.func15, Try.ntmps15
    go_wp2
    go_ret
    exact Ret.mk rfl (Below.refl _ _)

set_option maxRecDepth 100000 in
set_option maxHeartbeats 4000000 in
theorem isPen_yes (b off n c : Nat) (p : Nat → Int × Int) (w : World) (h3 : 3 ≤ n) (h10 : n ≤ 10)
    (hc : ∀ i, i < n → w.cell? ⟨b, off + i * 2, none⟩ = some (.int .i64 (p i).1) ∧ w.cell? ⟨b, off + i * 2 + 1, none⟩ = some (.int .i64 (p i).2)) :
    Calls Try.prog 15 #[.slice (some ⟨b, off, none⟩) n c] w (Ret (.bool (decide (PenP n p))) w) := by
  go_enter Try.func15, Try.ntmps15
  go_wp2
  have hc := Lib.hid hc
  go_loopw [4] (fun i wr => ∃ k : Nat, k ≤ n ∧ i = .int .i64 k ∧ (∀ j, j < k → Ok1 n p j) ∧ Below w.heap.size w wr) (fun i _ => n - (intOf i).toNat)
  case atStart => exact ⟨0, by omega, rfl, fun j hj => absurd hj (by omega), Below.refl _ _⟩
  case round =>
    obtain ⟨k, hk, rfl, hok, B0⟩ := hrel
    by_cases hlt : k < n
    · have hok := Lib.hid hok
      have hi0 : (0 : Int) ≤ (k : Int) := by omega
      have hi1 : (k : Int) < (n : Int) := by omega
      have hq : (k + 1) % n < n := Nat.mod_lt _ (by omega)
      obtain ⟨e0, e1⟩ := hc.out k hlt
      obtain ⟨f0, f1⟩ := hc.out _ hq
      have x0 := cellX (cellB B0 e0)
      have x1 := cellX (cellB B0 e1)
      have y0 := cellX (cellB B0 f0)
      have y1 := cellX (cellB B0 f1)
      clear e0 e1 f0 f1
      obtain ⟨m0, m1, m2⟩ := mod_at (k + 1) n (by omega)
      simp only [Int.natCast_add, Int.natCast_one] at m0 m1 m2
      have D := fun W => inRange_any (p k).1 (p k).2 W
      go_wp2
      cases g : decide (Sm 50 ((p k).1, (p k).2))
      all_goals rw [g] at D
      · refine wp_region_ext (by kernel_rfl) (by kernel_rfl) ?_
        repeat (go_big_quiet_step ((go_at_call 31; exact callE (D _))))
        refine wpQuiet_nil ?_
        rintro ⟨w1, hw1⟩
        dsimp only
        replace B0 := nextB B0 hw1
        go_wp2
        go_ret
        refine Ret.mk (ret_dec ?_) B0
        simp only [Bool.false_eq_true, false_iff]
        intro hp
        exact absurd (hp.2.2.1 k hlt).1 (of_decide_eq_false g)
      · refine wp_region_ext (by kernel_rfl) (by kernel_rfl) ?_
        repeat (go_big_quiet_step ((go_at_call 31; exact callE (D _))))
        refine wpQuiet_nil ?_
        rintro ⟨w1, hw1⟩
        dsimp only
        replace B0 := nextB B0 hw1
        clear x0 x1 y0 y1
        cases g2 : eqP ((p k).1, (p k).2) ((p ((k + 1) % n)).1, (p ((k + 1) % n)).2)
        · go_wp2
          go_roundw
          case rel =>
            refine ⟨k + 1, by omega, by go_num, fun j hj => ?_, B0⟩
            by_cases hjk : j = k
            · subst hjk; exact ⟨of_decide_eq_true g, eqP_not.1 g2⟩
            · exact hok.out j (by omega)
          case measure => simp [intOf]; omega
        · go_wp2
          go_ret
          refine Ret.mk (ret_dec ?_) B0
          simp only [Bool.false_eq_true, false_iff]
          intro hp
          exact absurd (eqP_iff.1 g2) (hp.2.2.1 k hlt).2
    · have e : k = n := by omega
      have hok : Hid (∀ j, j < n → Ok1 n p j) := by subst e; exact Lib.hid hok
      subst e
      go_wp2
      go_loopw [5] (fun i wr => ∃ k' : Nat, k' ≤ k ∧ i = .int .i64 k' ∧ (∀ j, j < k' → Ok3 k p j ∧ ∀ l, l < k → j + 2 ≤ l → Ok2 k p j l) ∧ Below w.heap.size w wr) (fun i _ => k - (intOf i).toNat)
      case atStart => exact ⟨0, by omega, rfl, fun j hj => absurd hj (by omega), B0⟩
      case round =>
        clear B0
        obtain ⟨i, hi, rfl, hok2, B0⟩ := hrel
        by_cases hlt : i < k
        · have hok2 := Lib.hid hok2
          have hi0 : (0 : Int) ≤ (i : Int) := by omega
          have hi1 : (i : Int) < (k : Int) := by omega
          have hq : (i + 1) % k < k := Nat.mod_lt _ (by omega)
          obtain ⟨e0, e1⟩ := hc.out i hlt
          obtain ⟨f0, f1⟩ := hc.out _ hq
          replace e0 := cellB B0 e0
          replace e1 := cellB B0 e1
          replace f0 := cellB B0 f0
          replace f1 := cellB B0 f1
          obtain ⟨m0, m1, m2⟩ := mod_at1 i k (by omega)
          have hb : b < wr.heap.size := block_lt_of_cell e0
          have hq2 : (i + 2) % k < k := Nat.mod_lt _ (by omega)
          obtain ⟨g0, g1⟩ := hc.out _ hq2
          replace g0 := cellB B0 g0
          replace g1 := cellB B0 g1
          obtain ⟨m3, m4, m5⟩ := mod_at2 i k (by omega)
          have S1 : Sm 1048576 ((p i).1, (p i).2) := (hok.out i hlt).1.mono (by omega)
          have S2 : Sm 1048576 ((p ((i + 1) % k)).1, (p ((i + 1) % k)).2) := (hok.out _ hq).1.mono (by omega)
          have S3 : Sm 1048576 ((p ((i + 2) % k)).1, (p ((i + 2) % k)).2) := (hok.out _ hq2).1.mono (by omega)
          go_wp2
          go_region
          · go_wp2_with fail
            refine calls_at (F := fun W => Box2 W (wr.heap.size) (p i).1 (p i).2 ∧ Box2 W (wr.heap.size + 1) (p ((i + 1) % k)).1 (p ((i + 1) % k)).2 ∧ Box2 W (wr.heap.size + 1 + 1) (p ((i + 2) % k)).1 (p ((i + 2) % k)).2 ∧ Below wr.heap.size wr W)
              ⟨⟨by go_simp, by go_simp⟩, ⟨by go_simp, by go_simp⟩, ⟨by go_simp, by go_simp⟩, b3d _ _ _ _⟩ ?_
            rintro W ⟨K6, K7, K8, C0⟩
            refine (on_any _ _ _ _ _ _ W (by assumption) (by assumption) (by assumption)).mono ?_
            rintro e w1 ⟨rfl, hb1⟩
            dsimp only
            replace B0 := nextB B0 (nextB C0 hb1)
            replace K6 := K6.next hb1
            replace K7 := K7.next hb1
            replace K8 := K8.next hb1
            clear C0 hb1 e0 e1 f0 f1 g0 g1
            obtain ⟨k60, k61⟩ := id K6
            obtain ⟨k70, k71⟩ := id K7
            obtain ⟨k80, k81⟩ := id K8
            go_wp2_with (go_at_call 36; refine (on_any _ _ _ _ _ _ _ (by assumption) (by assumption) (by assumption)).mono ?_; rintro e w2 ⟨rfl, hb2⟩; replace B0 := nextB B0 hb2; replace K6 := K6.next hb2; replace K7 := K7.next hb2)
            all_goals first | (go_ret; exact Ret.mk (ret_dec (by simp only [Bool.false_eq_true, false_iff]; intro hp; have h3 := (hp.2.2.2 i hlt).1; first | exact h3.1 (by assumption) | exact h3.2 (by assumption))) B0) | skip
            have hO3 : Hid (Ok3 k p i) := ⟨by assumption, by assumption⟩
            clear S3 hq2 m3 m4 m5
            go_loopw [9] (fun l wi => ∃ l' : Nat, l' ≤ k + 2 ∧ i + 2 ≤ l' ∧ l = .int .i64 l' ∧ (∀ j, j < k → i + 2 ≤ j → j < l' → Ok2 k p i j) ∧ Box2 wi (wr.heap.size) (p i).1 (p i).2 ∧ Box2 wi (wr.heap.size + 1) (p ((i + 1) % k)).1 (p ((i + 1) % k)).2 ∧ Below w.heap.size w wi) (fun l _ => k + 2 - (intOf l).toNat)
            case atStart => exact ⟨i + 2, by omega, by omega, by go_num, fun j _ _ _ => absurd ‹j < i + 2› (by omega), K6, K7, B0⟩
            case round =>
              clear B0 K6 K7 K8 k60 k61 k70 k71 k80 k81
              obtain ⟨l, hl, hil, rfl, hok4, K6, K7, B0⟩ := hrel
              have hok4 := Lib.hid hok4
              by_cases hlk : l < k
              · have hl0 : (0 : Int) ≤ (l : Int) := by omega
                have hl1 : (l : Int) < (k : Int) := by omega
                have hql : (l + 1) % k < k := Nat.mod_lt _ (by omega)
                obtain ⟨e0, e1⟩ := hc.out l hlk
                obtain ⟨f0, f1⟩ := hc.out _ hql
                have x0 := cellX (cellB B0 e0)
                have x1 := cellX (cellB B0 e1)
                have y0 := cellX (cellB B0 f0)
                have y1 := cellX (cellB B0 f1)
                have x60 := cellX K6.1
                have x61 := cellX K6.2
                have x70 := cellX K7.1
                have x71 := cellX K7.2
                clear e0 e1 f0 f1
                obtain ⟨m0, m1, m2⟩ := mod_at1 l k (by omega)
                have T1 : Sm 1048576 ((p l).1, (p l).2) := (hok.out l hlk).1.mono (by omega)
                have T2 : Sm 1048576 ((p ((l + 1) % k)).1, (p ((l + 1) % k)).2) := (hok.out _ hql).1.mono (by omega)
                go_wp2
                by_cases hne : (l + 1) % k = i
                · have g1 : (((l : Int) + 1) % (k : Int) != (i : Int)) = false := by rw [bne_eq_false_iff_eq]; omega
                  refine wp_region_ext (by kernel_rfl) (by kernel_rfl) ?_
                  repeat (go_big_quiet_step (fail))
                  refine wpQuiet_nil ?_
                  rintro ⟨w1, hw1⟩
                  dsimp only
                  replace B0 := nextB B0 hw1
                  replace K6 := K6.next hw1
                  replace K7 := K7.next hw1
                  clear x0 x1 y0 y1 x60 x61 x70 x71
                  go_wp2
                  go_roundw
                  case rel => exact ⟨l + 1, by omega, by omega, by go_num, fun j h1 h2 h4 => (by
                    by_cases hjl : j = l
                    · subst hjl; intro hx; exact absurd hne hx
                    · exact hok4.out j h1 h2 (by omega)), K6, K7, B0⟩
                  case measure => simp [intOf]; omega
                · have g1 : (((l : Int) + 1) % (k : Int) != (i : Int)) = true := by rw [bne_iff_ne]; omega
                  refine wp_region_ext (by kernel_rfl) (by kernel_rfl) ?_
                  repeat (go_big_quiet_step ((go_at_call 37; exact callE (rmeet_any _ _ _ _ _ _ _ _ _ (by assumption) (by assumption) (by assumption) (by assumption)))))
                  refine wpQuiet_nil ?_
                  rintro ⟨w1, hw1⟩
                  dsimp only
                  replace B0 := nextB B0 hw1
                  replace K6 := K6.next hw1
                  replace K7 := K7.next hw1
                  clear x0 x1 y0 y1 x60 x61 x70 x71
                  cases g2 : decide (MeetP ((p i).1, (p i).2) ((p ((i + 1) % k)).1, (p ((i + 1) % k)).2) ((p l).1, (p l).2) ((p ((l + 1) % k)).1, (p ((l + 1) % k)).2))
                  · go_wp2
                    go_roundw
                    case rel => exact ⟨l + 1, by omega, by omega, by go_num, fun j h1 h2 h4 => (by
                      by_cases hjl : j = l
                      · subst hjl; intro _; exact of_decide_eq_false g2
                      · exact hok4.out j h1 h2 (by omega)), K6, K7, B0⟩
                    case measure => simp [intOf]; omega
                  · go_wp2
                    go_ret
                    exact Ret.mk (ret_dec (by simp only [Bool.false_eq_true, false_iff]; intro hp; exact (hp.2.2.2 i hlt).2 l hlk hil hne (of_decide_eq_true g2))) B0
              · go_wp2
                go_roundw
                case rel => exact ⟨i + 1, by omega, by go_num, fun j hj => (by
                  by_cases hji : j = i
                  · subst hji; exact ⟨hO3, fun q h1 h2 => hok4.out q h1 h2 (by omega)⟩
                  · exact hok2.out j (by omega)), B0⟩
                case measure => simp [intOf]; omega
          · go_wp2_with fail
            refine calls_at (F := fun W => Box2 W (wr.heap.size + 1) (p i).1 (p i).2 ∧ Box2 W (wr.heap.size) (p ((i + 1) % k)).1 (p ((i + 1) % k)).2 ∧ Box2 W (wr.heap.size + 1 + 1) (p ((i + 2) % k)).1 (p ((i + 2) % k)).2 ∧ Below wr.heap.size wr W)
              ⟨⟨by go_simp, by go_simp⟩, ⟨by go_simp, by go_simp⟩, ⟨by go_simp, by go_simp⟩, b3d _ _ _ _⟩ ?_
            rintro W ⟨K6, K7, K8, C0⟩
            refine (on_any _ _ _ _ _ _ W (by assumption) (by assumption) (by assumption)).mono ?_
            rintro e w1 ⟨rfl, hb1⟩
            dsimp only
            replace B0 := nextB B0 (nextB C0 hb1)
            replace K6 := K6.next hb1
            replace K7 := K7.next hb1
            replace K8 := K8.next hb1
            clear C0 hb1 e0 e1 f0 f1 g0 g1
            obtain ⟨k60, k61⟩ := id K6
            obtain ⟨k70, k71⟩ := id K7
            obtain ⟨k80, k81⟩ := id K8
            go_wp2_with (go_at_call 36; refine (on_any _ _ _ _ _ _ _ (by assumption) (by assumption) (by assumption)).mono ?_; rintro e w2 ⟨rfl, hb2⟩; replace B0 := nextB B0 hb2; replace K6 := K6.next hb2; replace K7 := K7.next hb2)
            all_goals first | (go_ret; exact Ret.mk (ret_dec (by simp only [Bool.false_eq_true, false_iff]; intro hp; have h3 := (hp.2.2.2 i hlt).1; first | exact h3.1 (by assumption) | exact h3.2 (by assumption))) B0) | skip
            have hO3 : Hid (Ok3 k p i) := ⟨by assumption, by assumption⟩
            clear S3 hq2 m3 m4 m5
            go_loopw [9] (fun l wi => ∃ l' : Nat, l' ≤ k + 2 ∧ i + 2 ≤ l' ∧ l = .int .i64 l' ∧ (∀ j, j < k → i + 2 ≤ j → j < l' → Ok2 k p i j) ∧ Box2 wi (wr.heap.size + 1) (p i).1 (p i).2 ∧ Box2 wi (wr.heap.size) (p ((i + 1) % k)).1 (p ((i + 1) % k)).2 ∧ Below w.heap.size w wi) (fun l _ => k + 2 - (intOf l).toNat)
            case atStart => exact ⟨i + 2, by omega, by omega, by go_num, fun j _ _ _ => absurd ‹j < i + 2› (by omega), K6, K7, B0⟩
            case round =>
              clear B0 K6 K7 K8 k60 k61 k70 k71 k80 k81
              obtain ⟨l, hl, hil, rfl, hok4, K6, K7, B0⟩ := hrel
              have hok4 := Lib.hid hok4
              by_cases hlk : l < k
              · have hl0 : (0 : Int) ≤ (l : Int) := by omega
                have hl1 : (l : Int) < (k : Int) := by omega
                have hql : (l + 1) % k < k := Nat.mod_lt _ (by omega)
                obtain ⟨e0, e1⟩ := hc.out l hlk
                obtain ⟨f0, f1⟩ := hc.out _ hql
                have x0 := cellX (cellB B0 e0)
                have x1 := cellX (cellB B0 e1)
                have y0 := cellX (cellB B0 f0)
                have y1 := cellX (cellB B0 f1)
                have x60 := cellX K6.1
                have x61 := cellX K6.2
                have x70 := cellX K7.1
                have x71 := cellX K7.2
                clear e0 e1 f0 f1
                obtain ⟨m0, m1, m2⟩ := mod_at1 l k (by omega)
                have T1 : Sm 1048576 ((p l).1, (p l).2) := (hok.out l hlk).1.mono (by omega)
                have T2 : Sm 1048576 ((p ((l + 1) % k)).1, (p ((l + 1) % k)).2) := (hok.out _ hql).1.mono (by omega)
                go_wp2
                by_cases hne : (l + 1) % k = i
                · have g1 : (((l : Int) + 1) % (k : Int) != (i : Int)) = false := by rw [bne_eq_false_iff_eq]; omega
                  refine wp_region_ext (by kernel_rfl) (by kernel_rfl) ?_
                  repeat (go_big_quiet_step (fail))
                  refine wpQuiet_nil ?_
                  rintro ⟨w1, hw1⟩
                  dsimp only
                  replace B0 := nextB B0 hw1
                  replace K6 := K6.next hw1
                  replace K7 := K7.next hw1
                  clear x0 x1 y0 y1 x60 x61 x70 x71
                  go_wp2
                  go_roundw
                  case rel => exact ⟨l + 1, by omega, by omega, by go_num, fun j h1 h2 h4 => (by
                    by_cases hjl : j = l
                    · subst hjl; intro hx; exact absurd hne hx
                    · exact hok4.out j h1 h2 (by omega)), K6, K7, B0⟩
                  case measure => simp [intOf]; omega
                · have g1 : (((l : Int) + 1) % (k : Int) != (i : Int)) = true := by rw [bne_iff_ne]; omega
                  refine wp_region_ext (by kernel_rfl) (by kernel_rfl) ?_
                  repeat (go_big_quiet_step ((go_at_call 37; exact callE (rmeet_any _ _ _ _ _ _ _ _ _ (by assumption) (by assumption) (by assumption) (by assumption)))))
                  refine wpQuiet_nil ?_
                  rintro ⟨w1, hw1⟩
                  dsimp only
                  replace B0 := nextB B0 hw1
                  replace K6 := K6.next hw1
                  replace K7 := K7.next hw1
                  clear x0 x1 y0 y1 x60 x61 x70 x71
                  cases g2 : decide (MeetP ((p i).1, (p i).2) ((p ((i + 1) % k)).1, (p ((i + 1) % k)).2) ((p l).1, (p l).2) ((p ((l + 1) % k)).1, (p ((l + 1) % k)).2))
                  · go_wp2
                    go_roundw
                    case rel => exact ⟨l + 1, by omega, by omega, by go_num, fun j h1 h2 h4 => (by
                      by_cases hjl : j = l
                      · subst hjl; intro _; exact of_decide_eq_false g2
                      · exact hok4.out j h1 h2 (by omega)), K6, K7, B0⟩
                    case measure => simp [intOf]; omega
                  · go_wp2
                    go_ret
                    exact Ret.mk (ret_dec (by simp only [Bool.false_eq_true, false_iff]; intro hp; exact (hp.2.2.2 i hlt).2 l hlk hil hne (of_decide_eq_true g2))) B0
              · go_wp2
                go_roundw
                case rel => exact ⟨i + 1, by omega, by go_num, fun j hj => (by
                  by_cases hji : j = i
                  · subst hji; exact ⟨hO3, fun q h1 h2 => hok4.out q h1 h2 (by omega)⟩
                  · exact hok2.out j (by omega)), B0⟩
                case measure => simp [intOf]; omega
        · go_wp2
          go_ret
          exact Ret.mk (ret_dec (by simp only [true_iff]; exact ⟨h3, h10, hok.out, fun j hj => hok2 j (by omega)⟩)) B0

theorem isPen_any (a : Option Addr) (n c : Nat) (p : Nat → Int × Int) (w : World) (hm : n ≤ 4611686018427387904) (h : Pts w a n p) :
    Calls Try.prog 15 #[.slice a n c] w (Ret (.bool (decide (PenP n p))) w) := by
  by_cases hn : n < 3 ∨ 10 < n
  · refine (isPen_no a n c w hn hm).mono fun e w' he => ?_
    rw [show decide (PenP n p) = false from decide_eq_false (fun hp => by have := hp.1; have := hp.2.1; omega)]
    exact he
  · rcases h with h | ⟨b, off, rfl, hc⟩
    · omega
    · exact isPen_yes b off n c p w (by omega) (by omega) hc
end Go.Proofs.Ytnjegnlfdbbleaa
