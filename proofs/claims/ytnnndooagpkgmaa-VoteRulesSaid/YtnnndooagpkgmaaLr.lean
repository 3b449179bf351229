/- VoteRules: Rules and Other return what the specification returns: the walk. -/
import Derived.Test.YtnnndooagpkgmaaWk
import Derived.Test.YtnnndooagpkgmaaLw
namespace Go.Proofs.Ytnnndooagpkgmaa
open Go Go.RowKit

theorem rules_pair (x : Int) (m : Nat) (R : List Int) (s : Int) (hl : R.length = m) (hm : m ≤ 1000) : ∃ bw ew,
    (∀ a c W, Ints W a R → m ≤ c → Calls Try.prog 30 #[.int .i64 x, .slice a m c, .int .i64 s] W (Ret (.tuple #[.bool bw, .int .i64 ew]) W)) ∧
    (∀ a c W, Ints W a R → Calls Try.prog 31 #[.int .i64 x, .slice a m c, .int .i64 s] W (Ret (.tuple #[.bool bw, .int .i64 ew]) W)) := by
  by_cases hR : RuleI x R
  · obtain ⟨n, rfl⟩ : ∃ n : Nat, x = n := ⟨x.toNat, by have := hR.1; omega⟩
    have hP : RuleP n R := by simpa using hR.2
    by_cases hs : 0 ≤ s ∧ s < ((pw n : Nat) : Int)
    · obtain ⟨t, rfl⟩ : ∃ t : Nat, s = t := ⟨s.toNat, by omega⟩
      exact ⟨hasOne R t, 0, fun a c W h hc => Rules_yes a n c W m t R h hl hm hc hP (by omega), fun a c W h => refRules_yes a n c m R W t h hl hm hP (by omega)⟩
    · exact ⟨false, 2, fun a c W h hc => Rules_out a n c W m s R h hl hm hc hP hs, fun a c W h => refRules_out a n c m R W s h hl hm hP hs⟩
  · exact ⟨false, 2, fun a c W h hc => Rules_no a c W m x s R h hl hm hc hR, fun a c W h => refRules_no a c m R W x s h hl hm hR⟩
theorem other_pair (x : Int) (m : Nat) (R : List Int) (hl : R.length = m) (hm : m ≤ 1000) : ∃ k L ee, L.length = k ∧ k ≤ 300 ∧
    (∀ a c W, Ints W a R → m ≤ c → Calls Try.prog 32 #[.int .i64 x, .slice a m c] W (LeastC k L ee W)) ∧
    (∀ a c W, Ints W a R → Calls Try.prog 33 #[.int .i64 x, .slice a m c] W (LeastC k L ee W)) := by
  by_cases hR : RuleI x R
  · obtain ⟨n, rfl⟩ : ∃ n : Nat, x = n := ⟨x.toNat, by have := hR.1; omega⟩
    have hP : RuleP n R := by simpa using hR.2
    have hp8 : pw n ≤ 256 := by have := pw_mono (show n ≤ 8 by have := hP.2.1; omega); simpa [pw] using this
    have hlen := leastL_len (othF (hasOne R) n) (pw n)
    refine ⟨_, lN (leastL (othF (hasOne R) n) (pw n)), 0, rfl, by rw [lN_length]; omega, fun a c W h hc => ?_, fun a c W h => ?_⟩
    · exact (Other_yes a n c m R W h hl hm hc hP).mono fun e w' ⟨r, rc, he, _, hI, hb⟩ => ⟨r, rc, he, hI, hb⟩
    · exact (refOther_yes a n c m R W h hl hm hP).mono fun e w' ⟨r, rc, he, _, hI, hb⟩ => ⟨r, rc, he, hI, hb⟩
  · refine ⟨0, [], 2, rfl, by omega, fun a c W h hc => ?_, fun a c W h => ?_⟩
    · exact (Other_no a c m R W x h hl hm hc hR).mono fun e w' ⟨he, hb⟩ => ⟨none, 0, he, .inl rfl, hb⟩
    · exact (refOther_no a c m R W x h hl hm hR).mono fun e w' ⟨he, hb⟩ => ⟨none, 0, he, .inl rfl, hb⟩
set_option maxRecDepth 100000 in
set_option maxHeartbeats 8000000 in
theorem rules_any (x : Int) (a : Option Addr) (m c : Nat) (R : List Int) (s : Int) (w : World) (h : Ints w a R) (hl : R.length = m) (_hmc : m ≤ c) (hnil : a = none → c = 0) :
    Calls Try.prog 6 #[.int .i64 x, .slice a m c, .int .i64 s] w (Ret (.bool true) w) := by
  by_cases h60 : 60 < m
  · have g1 : decide (60 < m) = true := decide_eq_true h60
    clear hl
    go_enter Try.func6, Try.ntmps6
    go_wp2_with (go_at_call 16; refine (alive_any _).mono ?_; rintro e w1 ⟨rfl, hb1⟩)
    go_ret
    exact Ret.mk rfl hb1
  · have g1 : decide (60 < m) = false := decide_eq_false h60
    obtain ⟨bw, ew, W1, W2⟩ := rules_pair x m R s hl (by omega)
    obtain ⟨k, L, ee, hLm, hm3, L1, L2⟩ := other_pair x m R hl (by omega)
    have SL := Lib.hid (fun r r' rc rc' W hW hW' => same_at r r' k rc rc' L W hW hW' hLm (by omega))
    have SW := Lib.hid (fun r r' rc rc' W hW hW' => same_at r r' m rc rc' R W hW hW' hl (by omega))
    have hbb : (bw != bw) = false := by cases bw <;> rfl
    have hee : ((ew : Int) != ew) = false := by simp
    have hee2 : ((ee : Int) == ee) = true := by simp
    replace W1 := Lib.hid W1
    replace W2 := Lib.hid W2
    replace L1 := Lib.hid L1
    replace L2 := Lib.hid L2
    have hl' := Lib.hid hl
    replace h := Lib.hid h
    replace hnil := Lib.hid hnil
    have hown : (w.alloc (.cells #[] 3)).ownsRow w.heap.size 3 1 (.slice (some ⟨w.heap.size, 0, none⟩) 0 0) 0 [] := by
      refine ⟨rfl, .inr ⟨w.heap.size, 0, #[], rfl, ?_, ?_, Nat.le_refl _, by unfold maxLen; omega, rfl, rfl⟩⟩
      · omega
      · have := heap_alloc_new w (.cells #[] 3)
        first | exact this | simpa using this
    replace hown := Lib.hid hown
    have hbl := Lib.hid (b1 w (.cells #[] 3))
    clear hLm hl
    go_enter Try.func6, Try.ntmps6
    go_wp2_with (first
      | (at_builtin; refine wpList_copy rfl _ _ rfl w.heap.size (.slice (some ⟨w.heap.size, 0, none⟩) 0 0) rfl hown.out a m c R rfl (h.out.next hbl.out) hl'.out hnil.out (by omega) hbl.out.size ?_; intro a' c' w3 hown3 hg3 hc3 hI3; have hb3 := hbl.out.grown hg3 hbl.out.size (fun k hk => by have := (hown.out.lt k hk).1; omega); clear hown3 hg3; replace hI3 := Lib.hid hI3)
      | (go_at_call 30; refine (W1.out _ _ _ hI3.out hc3).mono ?_; rintro e v1 ⟨rfl, k1⟩)
      | (go_at_call 31; refine (W2.out _ _ _ (h.out.next (nextB hb3 k1))).mono ?_; rintro e v2 ⟨rfl, k2⟩; replace k1 := nextB k1 k2)
      | (go_at_call 32; refine (L1.out _ _ _ (hI3.out.next k1) hc3).mono ?_; rintro e v3 ⟨r1, rc1, rfl, hL1, k3⟩; replace hL1 := Lib.hid hL1; replace k1 := nextB k1 k3)
      | (go_at_call 33; refine (L2.out _ _ _ (h.out.next (nextB hb3 k1))).mono ?_; rintro e v4 ⟨r2, rc2, rfl, hL2, k4⟩; replace hL1 := Lib.hid (hL1.out.next k4); replace hL2 := Lib.hid hL2; replace k1 := nextB k1 k4)
      | (go_at_call 21; refine (SL.out _ _ _ _ _ hL1.out hL2.out).mono ?_; rintro e v5 ⟨rfl, k5⟩; replace k1 := nextB k1 k5; clear hL1 hL2)
      | (go_at_call 21; refine (SW.out _ _ _ _ _ (hI3.out.next k1) (h.out.next (nextB hb3 k1))).mono ?_; rintro e v6 ⟨rfl, k6⟩; replace k1 := nextB k1 k6)
      | (go_at_call 16; refine (alive_any _).mono ?_; rintro e v7 ⟨rfl, k7⟩))
    go_ret
    exact Ret.mk rfl (nextB hb3 (nextB k1 k7))
end Go.Proofs.Ytnnndooagpkgmaa
