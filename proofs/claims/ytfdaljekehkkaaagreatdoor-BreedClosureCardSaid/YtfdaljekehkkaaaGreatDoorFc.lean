/- Layer 5, by the program: setOf, Knot, Joined. -/
import Derived.Test.YtfdaljekehkkaaaGreatDoorFb
namespace Go.Proofs.YtfdaljekehkkaaaGreatDoor
open Go Go.RowKit

/-- Is the number a set of m beasts? -/
def stB (m : Nat) (x : Int) : Bool := decide (1 ≤ x) && decide (x ≤ ((pw m - 1 : Nat) : Int))
theorem setOf_any (m : Nat) (x : Int) (h8 : m ≤ 8) (w : World) : Calls Tryz.prog 34 #[.int .i64 (m : Nat), .int .i64 x] w (Only (if stB m x then .tuple #[.int .i64 x, .int .i64 0] else .tuple #[.int .i64 0, .int .i64 2]) w) := by
  have A := Lib.hid (all_any m (by omega) w)
  unfold stB
  have hp := pw_mono (k := 8) h8
  generalize pw m - 1 = f at *
  by_cases h1 : x < 1
  · rw [decide_eq_false (show ¬ 1 ≤ x by omega)]
    simp only [Bool.false_and, Bool.false_eq_true, if_false]
    go_enter Tryz.func34, Tryz.ntmps34
    go_wp2
    go_ret2
    exact Only.mk rfl
  · rw [decide_eq_true (show 1 ≤ x by omega)]
    have h1' : 1 ≤ x := by omega
    clear h1
    by_cases h2 : x ≤ (f : Int)
    · rw [decide_eq_true h2]
      simp only [Bool.and_self, if_true]
      go_enter Tryz.func34, Tryz.ntmps34
      go_wp2_with (go_at_call 29; (with_reducible refine A.out.mono ?_); rintro e w1 ⟨rfl, rfl⟩)
      go_ret2
      exact Only.mk rfl
    · rw [decide_eq_false h2]
      have h2' : (f : Int) < x := by omega
      clear h2
      simp only [Bool.and_false, Bool.false_eq_true, if_false]
      go_enter Tryz.func34, Tryz.ntmps34
      go_wp2_with (go_at_call 29; (with_reducible refine A.out.mono ?_); rintro e w1 ⟨rfl, rfl⟩)
      go_ret2
      exact Only.mk rfl
/-- Do the triples join the set, of three beasts or more, to just one part? -/
def kntB (L : List T3) (s : Nat) : Bool := decide (3 ≤ cntF s 9) && decide ((partsL L s).length = 1)
/-- The first such set. -/
def FirstN (p : Nat → Bool) (n : Nat) : Option Nat := (List.range n).find? p
theorem firstN_none {p : Nat → Bool} {n : Nat} (h : ∀ s, s < n → p s = false) : FirstN p n = none := by
  unfold FirstN
  rw [List.find?_eq_none]
  intro x hx
  rw [h x (List.mem_range.1 hx)]; simp
theorem firstN_some {p : Nat → Bool} {n s : Nat} (hs : s < n) (hp : p s = true) (h : ∀ j, j < s → p j = false) : FirstN p n = some s := by
  unfold FirstN
  rw [List.find?_eq_some_iff_getElem]
  refine ⟨hp, s, by simpa using hs, by simp, fun j hj => ?_⟩
  simp [h j hj]
def kntE (n : Int) (L : List T3) : Int × Int :=
  if memE n L = 0 then (match FirstN (kntB L) (pw n.toNat) with | some s => ((s : Nat), 0) | none => (0, 10)) else (0, memE n L)
set_option maxRecDepth 100000 in
set_option maxHeartbeats 1000000 in
theorem Knot_any (n : Int) (a : Option Addr) (l c : Nat) (L : List T3) (w : World) (hTr : Trips w a L) (hl : L.length = l) (hl9 : l ≤ 1000) (hT : Tab w) :
    Calls Tryz.prog 15 #[.int .i64 n, .slice a l c] w (Ret (.tuple #[.int .i64 (kntE n L).1, .int .i64 (kntE n L).2]) w) := by
  have M := memoriesOf_any n a l c L w hTr hl hl9
  unfold memV at M
  unfold kntE
  by_cases h0 : memE n L = 0
  · rw [if_pos h0] at M
    rw [if_pos h0]
    obtain ⟨m, rfl, h1, h8, hok, _⟩ := memE_ok h0
    rw [Int.toNat_natCast]
    have A := Lib.hid (fun W => all_any m (by omega) W)
    have J := Lib.hid (fun s (hs : s < 512) (h0 : 0 < s) W hW hW2 => joined_any a l c s L W hW hl hl9 (fun t ht => okT_of (hok t ht) (by omega)) hs h0 hW2)
    have hp8 := pw_mono (k := 8) h8
    have hpp := pw_pos m
    have h256 : pw 8 = 256 := rfl
    rw [h256] at hp8
    have hadd : IntKind.i64.wrap (((pw m - 1 : Nat) : Int) + 1) = ((pw m : Nat) : Int) := by rw [IntWalk.i64_in _ (by omega)]; omega
    replace M := Lib.hid M
    replace hTr := Lib.hid hTr
    replace hT := Lib.hid hT
    clear hl hok h0 h256
    obtain ⟨R, hR⟩ : ∃ R, Hid ((match FirstN (kntB L) (pw m) with | some s => (((s : Nat) : Int), (0 : Int)) | none => (0, 10)) = R) := ⟨_, Lib.hid rfl⟩
    rw [hR.out]
    obtain ⟨f, hf⟩ : ∃ f, Hid (pw m = f) := ⟨_, Lib.hid rfl⟩
    rw [hf.out] at A hadd hp8 hpp hR
    have i9 : (((f - 1 : Nat) : Int) + 1) = (f : Int) := by omega
    go_enter Tryz.func15, Tryz.ntmps15
    go_wp2_with (first
      | (go_at_call 19; (with_reducible refine M.out.mono ?_); rintro e w1 ⟨rfl, hb1⟩)
      | (go_at_call 29; (with_reducible refine (A.out _).mono ?_); rintro e w2 ⟨rfl, rfl⟩))
    go_loopw [21] (fun i wr => ∃ k : Nat, k ≤ f ∧ i = .int .i64 k ∧ Hid (∀ j, j < k → kntB L j = false) ∧ Below w.heap.size w wr) (fun i _ => f - (intOf i).toNat)
    case atStart => exact ⟨0, Nat.zero_le _, rfl, Lib.hid fun j h => absurd h (by omega), hb1⟩
    case round =>
      obtain ⟨k, hk, rfl, hno, B0⟩ := hrel
      by_cases hlt : k < f
      · have CN := Lib.hid (fun W => count_any k (by omega) W)
        have hcl := cntF_le k 9
        have hki : (k : Int) < (f : Int) := by omega
        by_cases hc3 : 3 ≤ cntF k 9
        · have hk0 : 0 < k := Nat.pos_of_ne_zero fun e => by
            subst e
            have : cntF 0 9 = 0 := by decide
            omega
          have JJ := Lib.hid (J.out k (by omega) hk0 wr (hTr.out.next B0) (hT.out.next B0))
          obtain ⟨pl, hpl⟩ : ∃ p, Hid (partsL L k = p) := ⟨_, Lib.hid rfl⟩
          rw [hpl.out] at JJ
          have hc3I : (3 : Int) ≤ ((cntF k 9 : Nat) : Int) := by omega
          have KB : Hid (kntB L k = decide (pl.length = 1)) := Lib.hid (by unfold kntB; rw [hpl.out, decide_eq_true hc3]; rfl)
          obtain ⟨q, hq⟩ : ∃ q, Hid (pl.length = q) := ⟨_, Lib.hid rfl⟩
          rw [hq.out] at KB
          generalize cntF k 9 = cn at *
          by_cases hq1 : q = 1
          · have hqI : ((q : Int) == 1) = true := by rw [beq_iff_eq]; omega
            go_wp2_with (first
              | (go_at_call 30; (with_reducible refine (CN.out _).mono ?_); rintro e w2 ⟨rfl, rfl⟩)
              | (go_at_call 31; (with_reducible refine JJ.out.mono ?_); rintro e w2 ⟨v2, rfl, ho2, hb2⟩; rw [hq.out] at ho2; obtain ⟨a2, c2, rfl, hc2, _⟩ := own_sets ho2 hq.out; clear ho2))
            go_ret2
            exact Ret.mk (by rw [← hR.out, firstN_some hlt (by rw [KB.out]; exact decide_eq_true hq1) hno.out]; rfl) (nextB B0 hb2)
          · have hqI : ((q : Int) == 1) = false := by rw [beq_eq_false_iff_ne]; omega
            go_wp2_with (first
              | (go_at_call 30; (with_reducible refine (CN.out _).mono ?_); rintro e w2 ⟨rfl, rfl⟩)
              | (go_at_call 31; (with_reducible refine JJ.out.mono ?_); rintro e w2 ⟨v2, rfl, ho2, hb2⟩; rw [hq.out] at ho2; obtain ⟨a2, c2, rfl, hc2, _⟩ := own_sets ho2 hq.out; clear ho2))
            go_roundw
            case rel => exact ⟨k + 1, by omega, by go_num, Lib.hid fun j hj => (by
              by_cases hjk : j = k
              · subst hjk; rw [KB.out]; exact decide_eq_false hq1
              · exact hno.out j (by omega)), nextB B0 hb2⟩
            case measure => simp [intOf]; omega
        · have hc3I : ((cntF k 9 : Nat) : Int) < 3 := by omega
          have KB : Hid (kntB L k = false) := Lib.hid (by unfold kntB; rw [decide_eq_false hc3]; rfl)
          generalize cntF k 9 = cn at *
          go_wp2_with (go_at_call 30; (with_reducible refine (CN.out _).mono ?_); rintro e w2 ⟨rfl, rfl⟩)
          go_roundw
          case rel => exact ⟨k + 1, by omega, by go_num, Lib.hid fun j hj => (by
            by_cases hjk : j = k
            · subst hjk; exact KB.out
            · exact hno.out j (by omega)), B0⟩
          case measure => simp [intOf]; omega
      · obtain rfl : k = f := by omega
        go_wp2
        go_ret2
        exact Ret.mk (by rw [← hR.out, firstN_none hno.out]; rfl) B0
  · rw [if_neg h0] at M
    rw [if_neg h0]
    have hne : (memE n L != 0) = true := by rw [bne_iff_ne]; exact h0
    clear h0
    replace M := Lib.hid M
    generalize memE n L = er at *
    go_enter Tryz.func15, Tryz.ntmps15
    go_wp2_with (go_at_call 19; (with_reducible refine M.out.mono ?_); rintro e w1 ⟨rfl, hb1⟩)
    go_ret2
    exact Ret.mk rfl hb1
end Go.Proofs.YtfdaljekehkkaaaGreatDoor
