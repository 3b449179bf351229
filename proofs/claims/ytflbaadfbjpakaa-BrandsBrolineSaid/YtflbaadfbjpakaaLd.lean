/- BrandsBroline: Choices is Between of the Round, on both sides: the walk. -/
import Derived.Test.YtflbaadfbjpakaaMh
import Derived.Test.YtflbaadfbjpakaaEd
namespace Go.Proofs.Ytflbaadfbjpakaa
open Go Go.RowKit

set_option maxRecDepth 100000 in
set_option maxHeartbeats 4000000 in
theorem broline_law (n : Int) (a : Option Addr) (len cap : Nat) (L : List (Int × Int)) (s1 s2 : Nat) (w : World) (h : Prs w a L) (hl : L.length = len) (hcap : len ≤ cap) (_hnil : a = none → cap = 0) (hs1 : s1 ≤ 255) (hs2 : s2 ≤ 255) :
    Calls Try.prog 12 #[.int .i64 n, .slice a len cap, .int .u8 s1, .int .u8 s2] w (Ret (.bool true) w) := by
  by_cases hgo : len ≤ 60 ∧ n ≤ 10 ∧ BrandP n L
  · obtain ⟨h60, hn10, hB⟩ := hgo
    have hk3 := hB.1
    obtain ⟨n, rfl⟩ : ∃ m : Nat, n = m := ⟨n.toNat, by omega⟩
    have I := Lib.hid (show Calls _ _ _ w (Ret (.bool true) w) from by
      have := refIsBrand_any n a len cap L w h hl (by omega)
      rwa [decide_eq_true hB] at this)
    obtain ⟨i, hi, hin⟩ : ∃ i : Nat, (s1 : Int) % (n : Int) = (i : Int) ∧ i < n := by
      have h1 := Int.emod_nonneg (s1 : Int) (show (n : Int) ≠ 0 by omega)
      have h2 := Int.emod_lt_of_pos (s1 : Int) (show (0 : Int) < n by omega)
      exact ⟨((s1 : Int) % (n : Int)).toNat, by omega, by omega⟩
    obtain ⟨j, hj, hjn⟩ : ∃ j : Nat, (s2 : Int) % ((n : Int) - 1) = (j : Int) ∧ j < n - 1 := by
      have h1 := Int.emod_nonneg (s2 : Int) (show (n : Int) - 1 ≠ 0 by omega)
      have h2 := Int.emod_lt_of_pos (s2 : Int) (show (0 : Int) < (n : Int) - 1 by omega)
      exact ⟨((s2 : Int) % ((n : Int) - 1)).toNat, by omega, by omega⟩
    obtain ⟨k, hk, hkn, hik⟩ : ∃ k : Nat, ((i : Int) + 1 + (j : Int)) % (n : Int) = (k : Int) ∧ k < n ∧ i ≠ k := by
      refine ⟨(i + 1 + j) % n, by rw [Int.natCast_emod]; rfl, Nat.mod_lt _ (by omega), fun e => ?_⟩
      rw [mod_small (by omega)] at e
      split at e <;> omega
    have ht := hB.tris
    have hR := brand_roundP hB
    obtain ⟨hcb1, hpos, _⟩ := brand_choices hB hin hkn hik
    obtain ⟨hcb2, _, _⟩ := brand_choices hB hkn hin (Ne.symm hik)
    rw [eE_comm] at hcb2
    have RR := Lib.hid (fun W (hW : Below w.heap.size w W) => Round_yes n a len cap L W (h.next hW) hl hcap hB)
    have C1 := Lib.hid (fun W (hW : Below w.heap.size w W) => Choices_yes n i k a len cap L W (h.next hW) hl hcap hB hin hkn hik (by omega))
    have C2 := Lib.hid (fun W (hW : Below w.heap.size w W) => Choices_yes n k i a len cap L W (h.next hW) hl hcap hB hkn hin (Ne.symm hik) (by omega))
    rw [hcb1] at C1
    rw [hcb2] at C2
    have BT := Lib.hid (fun a1 c1 W (hI : Ints W a1 (roundL n L)) => show Calls Try.prog 30 #[.slice a1 n c1, .int .i64 (min (i : Int) k), .int .i64 (max (i : Int) k)] W (Ret (.tuple #[.int .i64 (eE (roundL n L) i k), .int .i64 0]) W) from by
      have := Between_yes a1 n c1 (min i k) (max i k - min i k) (roundL n L) W hI (roundL_length n L) hR (by omega) (by omega)
      rw [show ((min i k : Nat) : Int) = min (i : Int) k by omega, show min (i : Int) k + ((max i k - min i k : Nat) : Int) = max (i : Int) k by omega] at this
      exact this)
    generalize eE (roundL n L) i k = v at *
    clear hcb1 hcb2 ht hR hB
    go_enter Try.func12, Try.ntmps12
    go_wp2_with (go_at_call 19; refine I.out.mono ?_; rintro e w1 ⟨rfl, hb1⟩)
    try simp only [hi, hk]
    refine (RR.out _ hb1).mono ?_
    intro e w2 hg
    obtain ⟨g, rfl, hI, hb2⟩ := gotR_ints hg
    dsimp only
    replace hb2 := nextB hb1 hb2
    clear hg hb1
    go_wp2_with fail
    try simp only [hi, hk]
    refine (C1.out _ hb2).mono ?_
    rintro e w3 ⟨rfl, hb3⟩
    dsimp only
    replace hI := hI.next hb3
    replace hb2 := nextB hb2 hb3
    clear hb3
    go_wp2_with fail
    try simp only [hi, hk]
    refine (C2.out _ hb2).mono ?_
    rintro e w4 ⟨rfl, hb4⟩
    dsimp only
    replace hI := hI.next hb4
    replace hb2 := nextB hb2 hb4
    clear hb4
    go_wp2_with fail
    try simp only [hi, hk]
    refine (BT.out _ _ _ hI).mono ?_
    rintro e w5 ⟨rfl, hb5⟩
    dsimp only
    replace hb2 := nextB hb2 hb5
    clear hb5 hI
    go_wp2_with (go_at_call 17; refine (alive_any _).mono ?_; rintro e w6 ⟨rfl, hb6⟩)
    go_ret
    exact Ret.mk rfl (nextB hb2 hb6)
  · have hcase : 60 < len ∨ (len ≤ 60 ∧ 10 < n) ∨ (len ≤ 60 ∧ n ≤ 10 ∧ ¬ BrandP n L) := by
      by_cases h1 : len ≤ 60
      · by_cases h2 : n ≤ 10
        · exact .inr (.inr ⟨h1, h2, fun h3 => hgo ⟨h1, h2, h3⟩⟩)
        · exact .inr (.inl ⟨h1, by omega⟩)
      · exact .inl (by omega)
    clear hgo
    rcases hcase with h1 | ⟨h1, h2⟩ | ⟨h1, h2, h3⟩
    · clear h hl
      go_enter Try.func12, Try.ntmps12
      go_wp2_with (go_at_call 17; refine (alive_any _).mono ?_; rintro e w2 ⟨rfl, hb2⟩)
      go_ret
      exact Ret.mk rfl hb2
    · clear h hl
      go_enter Try.func12, Try.ntmps12
      go_wp2_with (go_at_call 17; refine (alive_any _).mono ?_; rintro e w2 ⟨rfl, hb2⟩)
      go_ret
      exact Ret.mk rfl hb2
    · have I := Lib.hid (show Calls _ _ _ w (Ret (.bool false) w) from by
        have := refIsBrand_any n a len cap L w h hl (by omega)
        rwa [decide_eq_false h3] at this)
      clear h hl h3
      go_enter Try.func12, Try.ntmps12
      go_wp2_with (first
        | (go_at_call 19; refine I.out.mono ?_; rintro e w1 ⟨rfl, hb1⟩)
        | (go_at_call 17; refine (alive_any _).mono ?_; rintro e w2 ⟨rfl, hb2⟩))
      go_ret
      exact Ret.mk rfl (nextB hb1 hb2)
end Go.Proofs.Ytflbaadfbjpakaa
