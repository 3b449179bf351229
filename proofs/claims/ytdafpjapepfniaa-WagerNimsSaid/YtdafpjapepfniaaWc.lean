/- Layer 7: the tail, Parts, and Parts of the specification. -/
import Derived.Test.YtdafpjapepfniaaWb
namespace Go.Proofs.Ytdafpjapepfniaa
open Go Go.RowKit

/-- The last of the first k numbers, or 0. -/
def lastTo (L : List Int) (k : Nat) : Int := if k = 0 then 0 else nth L (k - 1)
theorem lastTo_succ (L : List Int) (k : Nat) : lastTo L (k + 1) = nth L k := by unfold lastTo; rw [if_neg (by omega), Nat.add_sub_cancel]
theorem lastTo_tl (n : Nat) : lastTo (fI (zx n)) (fI (zx n)).length = ((tl n : Nat) : Int) := by
  unfold tl
  rcases split_last (zx n) with e | ⟨l, a, e⟩
  · rw [e]; rfl
  · rw [e, fI_length, fI_snoc, List.length_append, List.length_singleton, lastTo_succ]
    simp [nth, fI]
/-- Numbers from 0 to 2 to the power of 40. -/
def SmallL (L : List Int) : Prop := ∀ k, k < L.length → 0 ≤ nth L k ∧ nth L k ≤ 1099511627776
theorem mem_le_sm : ∀ {l : List Nat} {k : Nat}, k ∈ l → fb k ≤ sm l
  | a :: l, k, h => by
    rw [sm_cons]
    rcases List.mem_cons.1 h with rfl | h
    · omega
    · have := mem_le_sm h; omega
theorem fI_small (n : Nat) (hn : n ≤ 1099511627776) : SmallL (fI (zx n)) := by
  intro k hk
  rw [fI_length] at hk
  have h1 : nth (fI (zx n)) k = ((fb ((zx n).getD k 0) : Nat) : Int) := by simp [nth, fI, hk]
  have h2 := mem_le_sm (List.getElem_mem hk)
  rw [zx_sum] at h2
  rw [h1]
  rw [show (zx n).getD k 0 = (zx n)[k] by simp [hk]]
  omega
set_option maxRecDepth 100000 in
theorem tail_any (n : Nat) (w : World) (hn : n ≤ 1099511627776) : Calls Try.prog 73 #[.int .i64 (n : Int)] w (Ret (.int .i64 ((tl n : Nat) : Int)) w) := by
  have P := Lib.hid (parts_any n w hn)
  have hl := zx_len n hn
  rw [← fI_length] at hl
  have hT := lastTo_tl n
  generalize fI (zx n) = L at *
  replace hT := Lib.hid hT
  obtain ⟨m, hm⟩ : ∃ m, Hid (L.length = m) := ⟨_, Lib.hid rfl⟩
  rw [hm.out] at hl hT
  go_enter Try.func73, Try.ntmps73
  go_wp2_with (go_at_call 45; refine P.out.mono ?_; rintro e w1 ⟨a, c, rfl, hc, hI, B1⟩; rw [hm.out] at hc ⊢)
  by_cases h0 : m = 0
  · subst h0
    go_loop [3, 5, 9] (fun v _ i => v = .int .i64 0 ∧ i = .int .i64 0) (fun _ _ _ => 0)
    case atStart => exact ⟨rfl, rfl⟩
    case round =>
      obtain ⟨rfl, rfl⟩ := hrel
      go_wp2
      go_ret
      exact Ret.mk (by rw [← hT.out]; rfl) B1
  · obtain ⟨b, off, rfl, hcc⟩ : ∃ b off, a = some ⟨b, off, none⟩ ∧ ∀ i, i < m → w1.cell? ⟨b, off + i, none⟩ = some (.int .i64 (nth L i)) := by
      rcases hI with h | ⟨b, off, e, h⟩
      · have := hm.out; omega
      · exact ⟨b, off, e, fun i hi => h i (by rw [hm.out]; exact hi)⟩
    replace hcc := Lib.hid hcc
    clear hI
    go_loop [3, 5, 9] (fun v _ i => ∃ k : Nat, k ≤ m ∧ i = .int .i64 k ∧ v = .int .i64 (lastTo L k)) (fun _ _ i => m - (intOf i).toNat)
    case atStart => exact ⟨0, by omega, rfl, rfl⟩
    case round =>
      obtain ⟨k, hk, rfl, rfl⟩ := hrel
      by_cases hlt : k < m
      · have hlt' : (k : Int) < (m : Int) := by omega
        have hx := hcc.out k hlt
        have hs := Lib.hid (lastTo_succ L k)
        go_wp2
        go_round
        case rel => exact ⟨k + 1, by omega, by go_num, by rw [hs.out]⟩
        case measure => simp [intOf]; omega
      · obtain rfl : k = m := by omega
        go_wp2
        go_ret
        exact Ret.mk (by rw [hT.out]; rfl) B1
theorem Parts_yes (n : Nat) (w : World) (hn : n ≤ 1099511627776) : Calls Try.prog 16 #[.int .i64 (n : Int)] w (GotI (fI (zx n)) w) := by
  have P := Lib.hid (parts_any n w hn)
  have H := isHeap_any n w
  rw [decide_eq_true (show HeapP (n : Int) from ⟨by omega, by omega⟩)] at H
  replace H := Lib.hid H
  generalize fI (zx n) = L at *
  obtain ⟨m, hm⟩ : ∃ m, Hid (L.length = m) := ⟨_, Lib.hid rfl⟩
  go_enter Try.func16, Try.ntmps16
  go_wp2_with (first
    | (go_at_call 44; refine H.out.mono ?_; rintro e w1 ⟨rfl, rfl⟩)
    | (go_at_call 45; refine P.out.mono ?_; rintro e w1 ⟨a, c, rfl, hc, hI, B1⟩; rw [hm.out] at hc ⊢))
  go_ret2
  exact ⟨a, c, by rw [hm.out]; rfl, by rw [hm.out]; exact hc, hI, B1⟩
/-- Nothing was returned but an error. -/
abbrev errI (e : Int) : Value := .tuple #[.slice none 0 0, .int .i64 e]
theorem Parts_no (n : Int) (w : World) (hn : ¬ HeapP n) : Calls Try.prog 16 #[.int .i64 n] w (Only (errI 2) w) := by
  have H := isHeap_any n w
  rw [decide_eq_false hn] at H
  replace H := Lib.hid H
  clear hn
  go_enter Try.func16, Try.ntmps16
  go_wp2_with (go_at_call 44; refine H.out.mono ?_; rintro e w1 ⟨rfl, rfl⟩)
  go_ret2
  exact Only.mk rfl
end Go.Proofs.Ytdafpjapepfniaa
