/- Layer 3, by the program: which numbers are weights, is a set among others, the sums of all sets. -/
import Derived.Test.YtnnndooagpkgmaaVa
namespace Go.Proofs.Ytnnndooagpkgmaa
open Go Go.RowKit

/-- A weight is from 0 to 1000. -/
def WtP (x : Int) : Prop := 0 ≤ x ∧ x ≤ 1000
instance (x : Int) : Decidable (WtP x) := by unfold WtP; infer_instance
theorem isNoWeight_any (x : Int) (w : World) : Calls Try.prog 66 #[.int .i64 x] w (Only (.bool (!decide (WtP x))) w) := by
  by_cases h : WtP x
  · have H := Lib.hid h
    unfold WtP at h
    obtain ⟨h1, h2⟩ := h
    go_enter Try.func66, Try.ntmps66
    go_wp2
    go_ret
    exact Only.mk (by
      have e1 : decide (x < 0) = false := decide_eq_false (by omega)
      have e2 : decide (1000 < x) = false := decide_eq_false (by omega)
      rw [decide_eq_true H.out]
      first | (show Value.bool (decide (x < 0) || decide (1000 < x)) = _; rw [e1, e2]; rfl) | simp)
  · have H := Lib.hid h
    have h' : x < 0 ∨ 1000 < x := by unfold WtP at h; omega
    clear h
    rcases h' with h' | h'
    all_goals
      go_enter Try.func66, Try.ntmps66
      go_wp2
      all_goals go_ret
      all_goals exact Only.mk (by
        rw [decide_eq_false H.out]
        first | rfl | (show Value.bool (decide (x < 0) || decide (1000 < x)) = _; congr 1; simp; omega) | (simp; omega))

/-- The first number of which p says yes, or -1. -/
def FoundP (xs : List Int) (p : Int → Bool) (r : Int) : Prop := 0 ≤ r ↔ xs.any p = true
def FoundR (xs : List Int) (p : Int → Bool) (w : World) (e : Ending) (w' : World) : Prop := ∃ r, e = .returned (.int .i64 r) ∧ FoundP xs p r ∧ w = w'

set_option maxRecDepth 100000 in
set_option maxHeartbeats 800000 in
theorem indexF0_any (a : Option Addr) (n c : Nat) (xs : List Int) (p : Int → Bool) (w : World) (h : Ints w a xs) (hn : xs.length = n) (hm : n ≤ 1000)
    (hp : ∀ i, i < n → Calls Try.prog 66 #[.int .i64 (nth xs i)] w (Only (.bool (p (nth xs i))) w)) :
    Calls Try.prog 78 #[.slice a n c, .func (.func 66) #[] #[]] w (FoundR xs p w) := by
  replace hp := Lib.hid hp
  by_cases h0 : n = 0
  · subst h0
    have hn := Lib.hid hn
    go_enter Try.func78, Try.ntmps78
    go_wp2
    go_loop [5, 8] (fun v i => i = .int .i64 0) (fun _ i => 0)
    case atStart => rfl
    case round =>
      subst hrel
      go_wp2
      go_ret
      refine ⟨_, rfl, ?_, rfl⟩
      have := List.eq_nil_of_length_eq_zero hn.out
      subst this
      unfold FoundP
      simp
  · obtain ⟨b, off, rfl, hc⟩ := ints_at h (by omega)
    rw [hn] at hc
    replace hc := Lib.hid hc
    replace hn := Lib.hid hn
    clear h
    go_enter Try.func78, Try.ntmps78
    go_wp2
    go_loop [5, 8] (fun v i => ∃ k : Nat, k ≤ n ∧ i = .int .i64 k ∧ (∀ j, j < k → p (nth xs j) = false)) (fun _ i => n - (intOf i).toNat)
    case atStart => exact ⟨0, by omega, rfl, fun j hj => absurd hj (by omega)⟩
    case round =>
      obtain ⟨k, hk, rfl, hno⟩ := hrel
      replace hno := Lib.hid hno
      by_cases hlt : k < n
      · have x0 := hc.out k hlt
        have hi1 : (k : Int) < (n : Int) := by omega
        have hmem := Lib.hid (nth_mem (show k < xs.length by rw [hn.out]; exact hlt))
        have C := hp.out k hlt
        obtain ⟨y, hy⟩ : ∃ y, Hid (nth xs k = y) := ⟨_, Lib.hid rfl⟩
        rw [hy.out] at C x0 hmem
        cases g : p y
        · rw [g] at C
          go_wp2_with (go_at_call 66; refine C.mono ?_; rintro e w1 ⟨rfl, rfl⟩)
          go_round
          case rel => exact ⟨k + 1, by omega, by go_num, fun j hj => (by
            by_cases hjk : j = k
            · subst hjk; rw [hy.out]; exact g
            · exact hno.out j (by omega))⟩
          case measure => simp [intOf]; omega
        · rw [g] at C
          go_wp2_with (go_at_call 66; refine C.mono ?_; rintro e w1 ⟨rfl, rfl⟩)
          go_ret
          exact ⟨_, rfl, ⟨fun _ => List.any_eq_true.2 ⟨_, hmem.out, g⟩, fun _ => by omega⟩, rfl⟩
      · go_wp2
        go_ret
        refine ⟨_, rfl, ⟨fun h => absurd h (by omega), fun hq => ?_⟩, rfl⟩
        obtain ⟨x, hx, hpx⟩ := List.any_eq_true.1 hq
        obtain ⟨i, hi, e⟩ := mem_nth hx
        have := hno.out i (by rw [hn.out] at hi; omega)
        rw [e, hpx] at this
        cases this
theorem containsF0_any (a : Option Addr) (n c : Nat) (xs : List Int) (p : Int → Bool) (w : World) (h : Ints w a xs) (hn : xs.length = n) (hm : n ≤ 1000)
    (hp : ∀ i, i < n → Calls Try.prog 66 #[.int .i64 (nth xs i)] w (Only (.bool (p (nth xs i))) w)) :
    Calls Try.prog 65 #[.slice a n c, .func (.func 66) #[] #[]] w (Only (.bool (xs.any p)) w) := by
  have K := Lib.hid (indexF0_any a n c xs p w h hn hm hp)
  clear h hn hp
  go_enter Try.func65, Try.ntmps65
  go_wp2_with (go_at_call 78; refine K.out.mono ?_; rintro e w1 ⟨r, rfl, hr, rfl⟩; replace hr := Lib.hid hr)
  go_ret
  refine Only.mk ?_
  cases hq : xs.any p
  · have : ¬ 0 ≤ r := fun h => by have := hr.out.1 h; rw [hq] at this; cases this
    simp; omega
  · have := hr.out.2 hq; simp [this]

set_option maxRecDepth 100000 in
set_option maxHeartbeats 800000 in
theorem indexF1_any (a : Option Addr) (n c : Nat) (xs : List Int) (p : Int → Bool) (q : Addr) (w : World) (h : Ints w a xs) (hn : xs.length = n) (hm : n ≤ 1000)
    (hp : ∀ i, i < n → Calls Try.prog 79 #[.int .i64 (nth xs i), .pointer (some q)] w (Only (.bool (p (nth xs i))) w)) :
    Calls Try.prog 78 #[.slice a n c, .func (.func 79) #[] #[.pointer (some q)]] w (FoundR xs p w) := by
  replace hp := Lib.hid hp
  by_cases h0 : n = 0
  · subst h0
    have hn := Lib.hid hn
    go_enter Try.func78, Try.ntmps78
    go_wp2
    go_loop [5, 8] (fun v i => i = .int .i64 0) (fun _ i => 0)
    case atStart => rfl
    case round =>
      subst hrel
      go_wp2
      go_ret
      refine ⟨_, rfl, ?_, rfl⟩
      have := List.eq_nil_of_length_eq_zero hn.out
      subst this
      unfold FoundP
      simp
  · obtain ⟨b, off, rfl, hc⟩ := ints_at h (by omega)
    rw [hn] at hc
    replace hc := Lib.hid hc
    replace hn := Lib.hid hn
    clear h
    go_enter Try.func78, Try.ntmps78
    go_wp2
    go_loop [5, 8] (fun v i => ∃ k : Nat, k ≤ n ∧ i = .int .i64 k ∧ (∀ j, j < k → p (nth xs j) = false)) (fun _ i => n - (intOf i).toNat)
    case atStart => exact ⟨0, by omega, rfl, fun j hj => absurd hj (by omega)⟩
    case round =>
      obtain ⟨k, hk, rfl, hno⟩ := hrel
      replace hno := Lib.hid hno
      by_cases hlt : k < n
      · have x0 := hc.out k hlt
        have hi1 : (k : Int) < (n : Int) := by omega
        have hmem := Lib.hid (nth_mem (show k < xs.length by rw [hn.out]; exact hlt))
        have C := hp.out k hlt
        obtain ⟨y, hy⟩ : ∃ y, Hid (nth xs k = y) := ⟨_, Lib.hid rfl⟩
        rw [hy.out] at C x0 hmem
        cases g : p y
        · rw [g] at C
          go_wp2_with (go_at_call 79; refine C.mono ?_; rintro e w1 ⟨rfl, rfl⟩)
          go_round
          case rel => exact ⟨k + 1, by omega, by go_num, fun j hj => (by
            by_cases hjk : j = k
            · subst hjk; rw [hy.out]; exact g
            · exact hno.out j (by omega))⟩
          case measure => simp [intOf]; omega
        · rw [g] at C
          go_wp2_with (go_at_call 79; refine C.mono ?_; rintro e w1 ⟨rfl, rfl⟩)
          go_ret
          exact ⟨_, rfl, ⟨fun _ => List.any_eq_true.2 ⟨_, hmem.out, g⟩, fun _ => by omega⟩, rfl⟩
      · go_wp2
        go_ret
        refine ⟨_, rfl, ⟨fun h => absurd h (by omega), fun hq => ?_⟩, rfl⟩
        obtain ⟨x, hx, hpx⟩ := List.any_eq_true.1 hq
        obtain ⟨i, hi, e⟩ := mem_nth hx
        have := hno.out i (by rw [hn.out] at hi; omega)
        rw [e, hpx] at this
        cases this
theorem containsF1_any (a : Option Addr) (n c : Nat) (xs : List Int) (p : Int → Bool) (q : Addr) (w : World) (h : Ints w a xs) (hn : xs.length = n) (hm : n ≤ 1000)
    (hp : ∀ i, i < n → Calls Try.prog 79 #[.int .i64 (nth xs i), .pointer (some q)] w (Only (.bool (p (nth xs i))) w)) :
    Calls Try.prog 65 #[.slice a n c, .func (.func 79) #[] #[.pointer (some q)]] w (Only (.bool (xs.any p)) w) := by
  have K := Lib.hid (indexF1_any a n c xs p q w h hn hm hp)
  clear h hn hp
  go_enter Try.func65, Try.ntmps65
  go_wp2_with (go_at_call 78; refine K.out.mono ?_; rintro e w1 ⟨r, rfl, hr, rfl⟩; replace hr := Lib.hid hr)
  go_ret
  refine Only.mk ?_
  cases hq : xs.any p
  · have : ¬ 0 ≤ r := fun h => by have := hr.out.1 h; rw [hq] at this; cases this
    simp; omega
  · have := hr.out.2 hq; simp [this]

theorem noWeights_any (a : Option Addr) (n c : Nat) (xs : List Int) (w : World) (h : Ints w a xs) (hn : xs.length = n) (hm : n ≤ 1000) :
    Calls Try.prog 65 #[.slice a n c, .func (.func 66) #[] #[]] w (Only (.bool (xs.any fun x => !decide (WtP x))) w) :=
  containsF0_any a n c xs _ w h hn hm (fun _i _ => isNoWeight_any _ w)
theorem beq_nat (a b : Nat) : ((a : Int) == (b : Int)) = (a == b) := by
  rw [Bool.eq_iff_iff, beq_iff_eq, beq_iff_eq]; omega
theorem containsOne1_any (q : Addr) (s o : Nat) (w : World) (hs : s < 65536) (ho : o < 65536) (hc : w.cell? q = some (.int .i64 (s : Nat))) :
    Calls Try.prog 79 #[.int .i64 (o : Nat), .pointer (some q)] w (Only (.bool (inB o s)) w) := by
  have an := i64_and_nat s o (by omega) (by omega)
  go_enter Try.func79, Try.ntmps79
  go_wp2
  go_ret
  exact Only.mk (by show Value.bool (((s &&& o : Nat) : Int) == (o : Int)) = _; rw [beq_nat]; rfl)
/-- Sets as numbers of the program. -/
def Sets (R : List Int) : Prop := ∀ x ∈ R, 0 ≤ x ∧ x < 65536
/-- Does a set contain one of the others? -/
def hasOne (R : List Int) (s : Nat) : Bool := R.any fun o => inB o.toNat s
theorem containsOne_any (a : Option Addr) (n c : Nat) (R : List Int) (s : Nat) (w : World) (h : Ints w a R) (hn : R.length = n) (hm : n ≤ 1000) (hs : s < 65536) (hR : Sets R) :
    Calls Try.prog 69 #[.int .i64 (s : Nat), .slice a n c] w (Ret (.bool (hasOne R s)) w) := by
  have K := Lib.hid (fun (W : World) (q : Addr) (hW : Ints W a R) (hc : W.cell? q = some (.int .i64 (s : Nat))) => containsF1_any a n c R (fun o => inB o.toNat s) q W hW hn hm (fun i hi => by
    have hx := hR _ (nth_mem (show i < R.length by omega))
    have := containsOne1_any q s (nth R i).toNat W hs (by omega) hc
    rwa [Int.toNat_of_nonneg hx.1] at this))
  have h := Lib.hid h
  clear hn
  go_enter Try.func69, Try.ntmps69
  go_wp2_with (go_at_call 65; refine (K.out _ _ (h.out.next (b1 _ _)) (by go_simp)).mono ?_; rintro e w1 ⟨rfl, rfl⟩)
  go_ret
  exact Ret.mk rfl (b1 _ _)
end Go.Proofs.Ytnnndooagpkgmaa
