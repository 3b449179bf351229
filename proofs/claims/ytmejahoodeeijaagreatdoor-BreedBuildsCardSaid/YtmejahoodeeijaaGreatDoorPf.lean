/- Layer 5, by the specification: Knot. -/
import Derived.Test.YtmejahoodeeijaaGreatDoorPe
namespace Go.Proofs.YtmejahoodeeijaaGreatDoor
open Go Go.RowKit

theorem kntE_some {m k : Nat} {L : List T3} (h0 : memE m L = 0) (h : FirstN (kntB L) (pw m) = some k) : kntE m L = ((k : Int), 0) := by
  unfold kntE
  rw [if_pos h0, Int.toNat_natCast, h]
theorem kntE_none {m : Nat} {L : List T3} (h0 : memE m L = 0) (h : FirstN (kntB L) (pw m) = none) : kntE m L = (0, 10) := by
  unfold kntE
  rw [if_pos h0, Int.toNat_natCast, h]
theorem kntE_bad {n : Int} {L : List T3} (h0 : memE n L ≠ 0) : kntE n L = (0, memE n L) := by
  unfold kntE
  rw [if_neg h0]
set_option maxRecDepth 100000 in
set_option maxHeartbeats 2000000 in
theorem refKnot_any (n : Int) (a : Option Addr) (l c : Nat) (L : List T3) (w : World) (hTr : Trips w a L) (hl : L.length = l) (hl9 : l ≤ 1000) :
    Calls Tryz.prog 28 #[.int .i64 n, .slice a l c] w (Ret (.tuple #[.int .i64 (kntE n L).1, .int .i64 (kntE n L).2]) w) := by
  have G := refGiven_any n a l c L w hTr hl hl9
  by_cases h0 : memE n L = 0
  · rw [h0] at G
    obtain ⟨m, rfl, h1, h8, hok, _⟩ := memE_ok h0
    have KS := Lib.hid (fun k => kntE_some (k := k) h0)
    have KN := Lib.hid (kntE_none h0)
    have J := Lib.hid (fun s (hs : s < 256) W hW => refParts_any a l c L s W hW hl hl9 (fun t ht => tri8_of (hok t ht) h8) hs)
    have hp8 := pw_mono (k := 8) h8
    have hpp := pw_pos m
    have h256 : pw 8 = 256 := rfl
    rw [h256] at hp8
    have sh := wrap_shl (k := m) (by omega)
    replace G := Lib.hid G
    replace hTr := Lib.hid hTr
    clear hl hok h0 h256
    obtain ⟨R, hR⟩ : ∃ R, Hid (kntE m L = R) := ⟨_, Lib.hid rfl⟩
    rw [hR.out]
    obtain ⟨f, hf⟩ : ∃ f, Hid (pw m = f) := ⟨_, Lib.hid rfl⟩
    rw [hf.out] at sh hp8 hpp KS KN
    have k0 := Lib.hid (show kntB L 0 = false by unfold kntB; rw [decide_eq_false (by decide)]; rfl)
    go_enter Tryz.func28, Tryz.ntmps28
    go_wp2_with (go_at_call 58; (with_reducible refine G.out.mono ?_); rintro e w1 ⟨rfl, hb1⟩)
    go_loopw [7] (fun i wr => ∃ k : Nat, k ≤ f ∧ i = .int .i64 k ∧ Hid (∀ j, j < k → kntB L j = false) ∧ Below w.heap.size w wr) (fun i _ => f - (intOf i).toNat)
    case atStart => exact ⟨1, by omega, rfl, Lib.hid fun j h => (Nat.lt_one_iff.1 h).symm ▸ k0.out, hb1⟩
    case round =>
      obtain ⟨k, hk, rfl, hno, B0⟩ := hrel
      by_cases hlt : k < f
      · have CN := Lib.hid (fun W => refSize_any k (by omega) W)
        have hcl := cntF_le k 9
        have hki : (k : Int) < (f : Int) := by omega
        by_cases hc3 : 3 ≤ cntF k 9
        · have JJ := Lib.hid (J.out k (by omega) wr (hTr.out.next B0))
          have hol : (outL L k).length = (partsL L k).length := out_len (by omega)
          have hc3I : (3 : Int) ≤ ((cntF k 9 : Nat) : Int) := by omega
          have KB : Hid (kntB L k = decide ((outL L k).length = 1)) := Lib.hid (by unfold kntB; rw [hol, decide_eq_true hc3]; rfl)
          obtain ⟨pl, hpl⟩ : ∃ p, Hid (outL L k = p) := ⟨_, Lib.hid rfl⟩
          rw [hpl.out] at JJ KB
          clear hol
          obtain ⟨q, hq⟩ : ∃ q, Hid (pl.length = q) := ⟨_, Lib.hid rfl⟩
          rw [hq.out] at KB
          generalize cntF k 9 = cn at *
          by_cases hq1 : q = 1
          · have hqI : ((q : Int) == 1) = true := by rw [beq_iff_eq]; omega
            go_wp2_with (first
              | (go_at_call 62; (with_reducible refine (CN.out _).mono ?_); rintro e w2 ⟨rfl, rfl⟩)
              | (go_at_call 63; (with_reducible refine JJ.out.mono ?_); rintro e w2 ⟨v2, rfl, ho2, hb2⟩; rw [hq.out] at ho2; obtain ⟨a2, c2, rfl, hc2, _⟩ := own_sets ho2 hq.out; clear ho2))
            go_ret2
            exact Ret.mk (by rw [← hR.out, KS.out k (firstN_some hlt (by rw [KB.out]; exact decide_eq_true hq1) hno.out)]; rfl) (nextB B0 hb2)
          · have hqI : ((q : Int) == 1) = false := by rw [beq_eq_false_iff_ne]; omega
            go_wp2_with (first
              | (go_at_call 62; (with_reducible refine (CN.out _).mono ?_); rintro e w2 ⟨rfl, rfl⟩)
              | (go_at_call 63; (with_reducible refine JJ.out.mono ?_); rintro e w2 ⟨v2, rfl, ho2, hb2⟩; rw [hq.out] at ho2; obtain ⟨a2, c2, rfl, hc2, _⟩ := own_sets ho2 hq.out; clear ho2))
            go_roundw
            case rel => exact ⟨k + 1, by omega, by go_num, Lib.hid fun j hj => (by
              by_cases hjk : j = k
              · subst hjk; rw [KB.out]; exact decide_eq_false hq1
              · exact hno.out j (by omega)), nextB B0 hb2⟩
            case measure => simp [intOf]; omega
        · have hc3I : ((cntF k 9 : Nat) : Int) < 3 := by omega
          have KB : Hid (kntB L k = false) := Lib.hid (by unfold kntB; rw [decide_eq_false hc3]; rfl)
          generalize cntF k 9 = cn at *
          go_wp2_with (go_at_call 62; (with_reducible refine (CN.out _).mono ?_); rintro e w2 ⟨rfl, rfl⟩)
          go_roundw
          case rel => exact ⟨k + 1, by omega, by go_num, Lib.hid fun j hj => (by
            by_cases hjk : j = k
            · subst hjk; exact KB.out
            · exact hno.out j (by omega)), B0⟩
          case measure => simp [intOf]; omega
      · obtain rfl : k = f := by omega
        go_wp2
        go_ret2
        exact Ret.mk (by rw [← hR.out, KN.out (firstN_none hno.out)]; rfl) B0
  · rw [kntE_bad h0]
    dsimp only
    have hne : (memE n L != 0) = true := by rw [bne_iff_ne]; exact h0
    clear h0
    replace G := Lib.hid G
    generalize memE n L = er at *
    go_enter Tryz.func28, Tryz.ntmps28
    go_wp2_with (go_at_call 58; (with_reducible refine G.out.mono ?_); rintro e w1 ⟨rfl, hb1⟩)
    go_ret2
    exact Ret.mk rfl hb1
end Go.Proofs.YtmejahoodeeijaaGreatDoor
