/- Layer 7, by the program: the Fibonacci numbers of a heap, and its tail. -/
import Derived.Test.YtdafpjapepfniaaWa
import Derived.Test.YtdafpjapepfniaaNa
namespace Go.Proofs.Ytdafpjapepfniaa
open Go Go.RowKit

/-- A heap can have so many matches. -/
def HeapP (n : Int) : Prop := 0 ≤ n ∧ n ≤ 1099511627776
instance (n : Int) : Decidable (HeapP n) := by unfold HeapP; infer_instance
theorem isHeap_any (n : Int) (w : World) : Calls Try.prog 44 #[.int .i64 n] w (Only (.bool (decide (HeapP n))) w) := by
  go_enter Try.func44, Try.ntmps44
  go_wp2
  all_goals go_ret
  all_goals exact Only.mk (ret_dec (by simp only [decide_eq_true_eq, Bool.false_eq_true, false_iff, HeapP]; omega))
/-- New numbers were returned. -/
def NewI (L : List Int) (w : World) (e : Ending) (w' : World) : Prop := ∃ a c, e = .returned (.slice a L.length c) ∧ L.length ≤ c ∧ Ints w' a L ∧ Below w.heap.size w w'
/-- New numbers were returned, and no error. -/
def GotI (L : List Int) (w : World) (e : Ending) (w' : World) : Prop := ∃ a c, e = .returned (.tuple #[.slice a L.length c, .int .i64 0]) ∧ L.length ≤ c ∧ Ints w' a L ∧ Below w.heap.size w w'
/-- The Fibonacci numbers of indices. -/
def fI (l : List Nat) : List Int := l.map fun k => ((fb k : Nat) : Int)
theorem fI_length (l : List Nat) : (fI l).length = l.length := by simp [fI]
theorem fI_snoc (l : List Nat) (k : Nat) : fI (l ++ [k]) = fI l ++ [((fb k : Nat) : Int)] := by simp [fI]
theorem IsZ.len : ∀ {k : Nat} {l : List Nat}, IsZ k l → l.length ≤ k
  | _, [], _ => Nat.zero_le _
  | k, a :: l, h => by
    have h1 := IsZ.len h.2
    have := h.1
    simp only [List.length_cons]; omega
theorem fb59 : fb 57 = 956722026041 ∧ fb 58 = 1548008755920 := by decide +kernel
theorem zx_len (n : Nat) (h : n ≤ 1099511627776) : (zx n).length ≤ 58 := by
  have h2 := zk_isZ (k := 58) (n := n) (by have := fb59.2; omega)
  rw [zx_at (by have := fb59.2; omega)] at h2
  exact h2.len
/-- What the numbers, and what is left, say on the way down. -/
def Down (n : Nat) (l : List Nat) (p q r : Nat) : Prop := (r = 0 ∧ zx n = l) ∨ ∃ j, p = fb j ∧ q = fb (j + 1) ∧ r < fb (j + 1) ∧ zx n = l ++ zk (j + 1) r
theorem zk_zero : ∀ k, zk k 0 = []
  | 0 => rfl
  | k + 1 => by rw [zk, if_neg (by have := fb_pos k; omega), zk_zero]
theorem Down.done {n : Nat} {l : List Nat} {p q : Nat} (h : Down n l p q 0) : zx n = l := by
  rcases h with h | ⟨j, _, _, _, h⟩
  · exact h.2
  · rw [h, zk_zero, List.append_nil]
theorem Down.take {n : Nat} {l : List Nat} {p q r : Nat} (h : Down n l p q r) (hr : 0 < r) (hp : p ≤ r) : ∃ j, p = fb j ∧ Down n (l ++ [j]) (q - p) p (r - p) := by
  rcases h with h | ⟨j, rfl, rfl, h1, h2⟩
  · omega
  · refine ⟨j, rfl, ?_⟩
    rw [zk, if_pos hp] at h2
    cases j with
    | zero =>
      left
      have h3 : fb (0 + 1) = 2 := rfl
      have h4 : fb 0 = 1 := rfl
      refine ⟨by omega, ?_⟩
      rw [h2]; rfl
    | succ j =>
      right
      have h3 := rest_lt h1 hp
      have h4 := fb_lt j
      rw [show j + 1 - 1 = j by omega] at h3
      refine ⟨j, by rw [fb_succ]; omega, rfl, by omega, by rw [h2]; simp⟩
theorem Down.skip {n : Nat} {l : List Nat} {p q r : Nat} (h : Down n l p q r) (hr : 0 < r) (hp : r < p) : Down n l (q - p) p r := by
  rcases h with h | ⟨j, rfl, rfl, h1, h2⟩
  · omega
  · rw [zk, if_neg (by omega)] at h2
    cases j with
    | zero => have h4 : fb 0 = 1 := rfl
              omega
    | succ j => exact .inr ⟨j, by rw [fb_succ]; omega, rfl, hp, h2⟩
theorem Down.le {n : Nat} {l : List Nat} {p q r : Nat} (h : Down n l p q r) (hr : 0 < r) : 0 < p ∧ p < q ∧ q ≤ 2 * p := by
  rcases h with h | ⟨j, rfl, rfl, h1, h2⟩
  · omega
  · exact ⟨fb_pos j, fb_lt j, fb_half j⟩
theorem Down.len {n : Nat} {l : List Nat} {p q r : Nat} (h : Down n l p q r) (hn : n ≤ 1099511627776) : l.length ≤ 58 := by
  have h1 := zx_len n hn
  rcases h with h | ⟨j, _, _, _, h⟩
  · rw [← h.2]; exact h1
  · rw [h, List.length_append] at h1; omega
set_option maxRecDepth 100000 in
set_option maxHeartbeats 4000000 in
theorem parts_any (n : Nat) (w : World) (hn : n ≤ 1099511627776) : Calls Try.prog 45 #[.int .i64 (n : Int)] w (NewI (fI (zx n)) w) := by
  obtain ⟨i0, hi, hz0, hz1, hz2⟩ := info_parts infoInt
  have G0 := Lib.hid hi
  have G1 := Lib.hid hz0
  have G2 := Lib.hid hz1
  have G3 := Lib.hid hz2
  clear hi hz0 hz1 hz2
  go_enter Try.func45, Try.ntmps45
  go_wp2
  go_loop [3, 4] (fun p q => ∃ x y : Nat, p = .int .i64 x ∧ q = .int .i64 y ∧ x < y ∧ y ≤ 2 * x ∧ (x = 1 ∨ x ≤ n) ∧ ∃ k, Hid (x = fb k ∧ y = fb (k + 1))) (fun _ q => n + 1 - (intOf q).toNat)
  case atStart => exact ⟨1, 2, rfl, rfl, by omega, by omega, .inl rfl, 0, Lib.hid ⟨rfl, rfl⟩⟩
  case round =>
    obtain ⟨x, y, rfl, rfl, h1, h2, h3, k, hk⟩ := hrel
    have h4 : x ≤ 1099511627776 := by omega
    clear h3
    by_cases hlt : y ≤ n
    · have hlt' : (y : Int) ≤ (n : Int) := by omega
      go_wp2
      go_round
      case rel => exact ⟨y, x + y, rfl, by go_num, by omega, by omega, .inr hlt, k + 1, Lib.hid ⟨hk.out.2, by rw [hk.out.1, hk.out.2, fb_succ]⟩⟩
      case measure => simp [intOf]; omega
    · have hlt' : (n : Int) < (y : Int) := by omega
      have hD : Down n [] x y n := .inr ⟨k, hk.out.1, hk.out.2, by have := hk.out.2; omega, by rw [zx_at (by have := hk.out.2; omega)]; rfl⟩
      clear hk
      go_wp2
      go_loopw [3, 4, 5, 6] (fun p q v r wr => ∃ x y z : Nat, ∃ l : List Nat, p = .int .i64 x ∧ q = .int .i64 y ∧ r = .int .i64 z ∧ y ≤ 2199023255552 ∧ x ≤ y ∧ z ≤ n ∧ Down n l x y z ∧ wr.ownsRow w.heap.size 3 1 v (fI l).length (lI (fI l)) ∧ Below w.heap.size w wr) (fun _ q _ _ _ => (intOf q).toNat)
      case atStart => exact ⟨x, y, n, [], rfl, rfl, rfl, by omega, by omega, Nat.le_refl _, hD, World.ownsRow_nil _ _ _ _, Below.refl _ _⟩
      case round =>
        clear hD h1 h2 h4 hlt hlt'
        obtain ⟨x, y, z, l, rfl, rfl, rfl, hy, hxy, hz, hD, hown, B0⟩ := hrel
        obtain ⟨a, c, rfl, hc, hI⟩ := own_intsA hown rfl
        by_cases hr : 0 < z
        · have hr' : (0 : Int) < (z : Int) := by omega
          obtain ⟨p1, p2, p3⟩ := hD.le hr
          by_cases hp : x ≤ z
          · have hp' : (x : Int) ≤ (z : Int) := by omega
            have hT := Lib.hid (hD.take hr hp)
            have hl := hD.len hn
            rw [← fI_length] at hl
            have hs := B0.size
            clear hD
            generalize hm : (fI l).length = m at *
            replace hm := Lib.hid hm
            replace hI := Lib.hid hI
            go_wp2_with (at_builtin; refine wpList_append_own _ rfl _ _ 22 rfl w.heap.size 3 i0 (.int .i64 0) 1 8 Try.underlying22 G0.out G1.out G2.out G3.out rfl (by decide) _ _ _ rfl (hown.alloc _) ⟨_, 0, none⟩ 1 1 [.int .i64 (x : Int)] rfl rfl (cell_one_new _ _ _) (by simp [Value.oneCell']) (by unfold maxLen; omega) (by omega) (by simp; omega) ?_; intro v' w2 hown2 hgrow _)
            have B2 := (B0.alloc hs _).grown hgrow (by simp; omega) (fun q hq => by have := (hown.lt q hq).1; omega)
            go_roundw
            case rel =>
              obtain ⟨j, hj, hD⟩ := hT.out
              refine ⟨y - x, x, z - x, l ++ [j], ?_, rfl, ?_, by omega, by omega, by omega, hD, ?_, B2⟩
              · first | go_num | (congr 1; omega)
              · first | go_num | (congr 1; omega)
              · rw [fI_snoc, List.length_append, hm.out, lI_snoc, ← hj]; exact hown2
            case measure => simp [intOf]; omega
          · have hp' : (z : Int) < (x : Int) := by omega
            have hT := Lib.hid (hD.skip hr (by omega))
            clear hD
            replace hown := Lib.hid hown
            go_wp2
            go_roundw
            case rel =>
              refine ⟨y - x, x, z, l, ?_, rfl, rfl, by omega, by omega, hz, hT.out, hown.out, B0⟩
              first | go_num | (congr 1; omega)
            case measure => simp [intOf]; omega
        · obtain rfl : z = 0 := by omega
          have hd := Lib.hid hD.done
          clear hD
          go_wp2
          go_ret
          rw [hd.out]
          exact ⟨a, c, rfl, hc, hI, B0⟩
end Go.Proofs.Ytdafpjapepfniaa
