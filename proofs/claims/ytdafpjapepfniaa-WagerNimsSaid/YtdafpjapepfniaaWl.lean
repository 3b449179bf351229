/- Layer 7: Euclid, by the program and by the specification. -/
import Derived.Test.YtdafpjapepfniaaWk
namespace Go.Proofs.Ytdafpjapepfniaa
open Go Go.RowKit

set_option maxRecDepth 100000 in
theorem euc1_zero (a b : Nat) (w : World) (h : min a b = 0) : Calls Try.prog 75 #[hV (eucH a b)] w (NewH [] w) := by
  have hbx := Blk.new w 60 (hC (eucH a b))
  have x0 : (w.alloc (.cells (hC (eucH a b)) 60)).cell? ⟨w.heap.size, 0, none⟩ = some (.int .i64 (a : Int)) := hbx.c 0 rfl
  have x1 : (w.alloc (.cells (hC (eucH a b)) 60)).cell? ⟨w.heap.size, 1, none⟩ = some (.int .i64 (b : Int)) := hbx.c 1 rfl
  have B0 := Lib.hid (b1 w (.cells (hC (eucH a b)) 60))
  clear hbx
  by_cases hle : a ≤ b
  · obtain rfl : a = 0 := by omega
    have hcmp : ((0 : Nat) : Int) ≤ (b : Int) := by omega
    clear h
    go_enter Try.func75, Try.ntmps75
    go_wp2
    go_ret
    exact ⟨none, 0, rfl, Nat.le_refl _, (fun h => absurd h (by simp)), B0.out⟩
  · obtain rfl : b = 0 := by omega
    have hcmp : ((0 : Nat) : Int) < (a : Int) := by omega
    clear h hle
    go_enter Try.func75, Try.ntmps75
    go_wp2
    go_ret
    exact ⟨none, 0, rfl, Nat.le_refl _, (fun h => absurd h (by simp)), B0.out⟩
theorem euc1_any (a b : Nat) (w : World) (ha : a ≤ 1099511627776) (hb : b ≤ 1099511627776) : Calls Try.prog 75 #[hV (eucH a b)] w (NewH (eucL a b) w) := by
  unfold eucL
  by_cases h : min a b = 0
  · rw [if_pos h]; exact euc1_zero a b w h
  · rw [if_neg h]
    by_cases hle : a ≤ b
    · rw [Nat.max_eq_right hle, Nat.min_eq_left hle]; exact euc1_le a b w ha hb hle (by omega)
    · rw [Nat.max_eq_left (show b ≤ a by omega), Nat.min_eq_right (show b ≤ a by omega)]; exact euc1_gt a b w ha hb (by omega) (by omega)
set_option maxRecDepth 100000 in
theorem euc2_any (a b : Nat) (w : World) (ha : a ≤ 1099511627776) (hb : b ≤ 1099511627776) : Calls Try.prog 76 #[hV (eucH a b)] w (Ret (.bool (hcw a b)) w) := by
  have hbx := Blk.new w 60 (hC (eucH a b))
  have x0 : (w.alloc (.cells (hC (eucH a b)) 60)).cell? ⟨w.heap.size, 0, none⟩ = some (.int .i64 (a : Int)) := hbx.c 0 rfl
  have x1 : (w.alloc (.cells (hC (eucH a b)) 60)).cell? ⟨w.heap.size, 1, none⟩ = some (.int .i64 (b : Int)) := hbx.c 1 rfl
  have B0 := Lib.hid (b1 w (.cells (hC (eucH a b)) 60))
  clear hbx
  have Q := Lib.hid (fun W => quotients_any a b W ha hb)
  have hl : Hid ((qs (max a b) (min a b)).length ≤ 1099511627776) := Lib.hid (by have := qs_len (min a b) (max a b) (min a b) (Nat.le_refl _); omega)
  unfold hcw
  generalize qs (max a b) (min a b) = l at *
  go_enter Try.func76, Try.ntmps76
  go_wp2_with (first
    | (go_at_call 54; refine (Q.out _).mono ?_; rintro e w1 ⟨a', c, rfl, hc', hI, hb1⟩; replace hb1 := Lib.hid (nextB B0.out hb1); have H := Lib.hid (hasChoice_any a' l _ c w1 hI rfl hl.out); rw [nI_length]; clear hI)
    | (go_at_call 77; refine H.out.mono ?_; rintro e w2 ⟨rfl, rfl⟩))
  go_ret
  exact Ret.mk rfl hb1.out
/-- The move by which the player who is next wins. -/
def eucR (a b : Nat) : Option Hp := if min a b = 0 then none else (eucO (max a b) (min a b)).map (eucM a b)
def eucF (x : Hp) : Bool := hcw x.s0.toNat x.s1.toNat
theorem eucF_M (a b k : Nat) : eucF (eucM a b k) = hcw (max a b - k * min a b) (min a b) := by
  unfold eucF eucM
  by_cases h : a ≤ b
  · rw [if_pos h, Nat.max_eq_right h, Nat.min_eq_left h]
    show hcw a (b - k * a) = _
    exact hcw_comm _ _
  · rw [if_neg h, Nat.max_eq_left (show b ≤ a by omega), Nat.min_eq_right (show b ≤ a by omega)]
    rfl
theorem euc_first (a b : Nat) : ((eucL a b).filter fun x => !eucF x).head? = eucR a b := by
  unfold eucL eucR
  by_cases h : min a b = 0
  · rw [if_pos h, if_pos h]; rfl
  · rw [if_neg h, if_neg h]
    have hq : 1 ≤ max a b / min a b := (Nat.le_div_iff_mul_le (by omega)).2 (by omega)
    unfold eucO
    have hf := eucF_M a b
    generalize max a b / min a b = q at *
    by_cases h2 : 2 ≤ q
    · rw [show max 1 (q - 1) = q - 1 by omega]
      have e : eucT a b (q - 1) (q + 1) = [eucM a b (q - 1), eucM a b q] := by
        unfold eucT
        rw [show q + 1 - (q - 1) = 2 by omega]
        show [eucM a b (q - 1 + 0), eucM a b (q - 1 + 1)] = _
        rw [show q - 1 + 1 = q by omega]; rfl
      rw [e]
      have h1 := hf (q - 1)
      have h3 := hf q
      cases g1 : eucF (eucM a b (q - 1)) <;> cases g2 : eucF (eucM a b q) <;> rw [g1] at h1 <;> rw [g2] at h3 <;> simp [g1, g2, ← h1, ← h3, h2]
    · obtain rfl : q = 1 := by omega
      have e : eucT a b (max 1 (1 - 1)) (1 + 1) = [eucM a b 1] := rfl
      rw [e]
      have h3 := hf 1
      rw [Nat.one_mul] at h3
      cases g2 : eucF (eucM a b 1) <;> rw [g2] at h3 <;> simp [g2, ← h3]
theorem euc_mem {a b : Nat} {x : Hp} (ha : a ≤ 1099511627776) (hb : b ≤ 1099511627776) (h : x ∈ eucL a b) : ∃ c d : Nat, x = eucH c d ∧ c ≤ 1099511627776 ∧ d ≤ 1099511627776 := by
  unfold eucL at h
  split at h
  · cases h
  · unfold eucT at h
    obtain ⟨i, _, rfl⟩ := List.mem_map.1 h
    unfold eucM
    split
    · exact ⟨_, _, rfl, ha, by omega⟩
    · exact ⟨_, _, rfl, by omega, hb⟩
theorem euc_best (a b : Nat) (w : World) (ha : a ≤ 1099511627776) (hb : b ≤ 1099511627776) :
    Calls Try.prog 48 #[gmV 75 #[] 76 #[], hV (eucH a b)] w (BestR none (fun A => w.heap.size ≤ A.heap.size) (eucR a b) w) := by
  rw [← euc_first]
  refine best_gen none w.heap.size _ _ _ _ _ _ _ eucF w (fun args W => by go_simp) (fun args W => by go_simp) (fun A _ => euc1_any a b A ha hb) (fun A x hx hA => ?_) (fun A B r hA _ hg => Nat.le_trans hA hg.size) (fun A hA => hA) (fun k hk => by cases hk) ?_ (Nat.le_refl _)
  · obtain ⟨c, d, rfl, hc, hd⟩ := euc_mem ha hb hx
    exact (euc2_any c d A hc hd).mono fun e B ⟨h1, h2⟩ => ⟨h1, grown_below h2 _, Nat.le_trans hA h2.size⟩
  · unfold eucL
    split
    · simp
    · rw [eucT_len]; omega
abbrev twoV (x y e : Int) : Value := .tuple #[.int .i64 x, .int .i64 y, .int .i64 e]
def eucV (a b : Nat) : Value := match eucR a b with
  | none => twoV 0 0 10
  | some h => twoV h.s0 h.s1 0
set_option maxRecDepth 100000 in
theorem Euclid_yes (a b : Nat) (w : World) (ha : a ≤ 1099511627776) (hb : b ≤ 1099511627776) : Calls Try.prog 24 #[.int .i64 (a : Int), .int .i64 (b : Int)] w (Ret (eucV a b) w) := by
  have H1 := isHeap_any a
  rw [decide_eq_true (show HeapP (a : Int) from ⟨by omega, by omega⟩)] at H1
  have H2 := isHeap_any b
  rw [decide_eq_true (show HeapP (b : Int) from ⟨by omega, by omega⟩)] at H2
  replace H1 := Lib.hid H1
  replace H2 := Lib.hid H2
  have F := Lib.hid (fun W => euclidsGame_any W)
  have M := Lib.hid (fun W => twoHeaps_any (a : Int) (b : Int) W)
  have B := Lib.hid (fun W => euc_best a b W ha hb)
  unfold eucV
  cases g : eucR a b with
  | none =>
    rw [g] at B
    dsimp only
    clear g
    go_enter Try.func24, Try.ntmps24
    go_wp2_with (first
      | (go_at_call 44; (with_reducible refine (H1.out _).mono ?_); rintro e w1 ⟨rfl, rfl⟩)
      | (go_at_call 44; (with_reducible refine (H2.out _).mono ?_); rintro e w1 ⟨rfl, rfl⟩)
      | (go_at_call 51; refine (F.out _).mono ?_; rintro e w1 ⟨rfl, hb1⟩; replace hb1 := Lib.hid hb1)
      | (go_at_call 52; refine (M.out _).mono ?_; rintro e w2 ⟨rfl, hb2⟩; replace hb2 := Lib.hid (nextB hb1.out hb2))
      | (go_at_call 48; refine (B.out _).mono ?_; rintro e w3 ⟨rfl, hg3, _⟩; have hb3 := Lib.hid (nextB hb2.out ⟨hg3.os, hg3.tape, hg3.output, hg3.size, fun i hi => hg3.block i hi (by simp)⟩); clear hg3; simp only [Option.getD_none, Option.isSome_none]))
    go_ret3
    exact Ret.mk rfl (nextB hb3.out (b1 _ _))
  | some h =>
    rw [g] at B
    dsimp only
    clear g
    go_enter Try.func24, Try.ntmps24
    go_wp2_with (first
      | (go_at_call 44; (with_reducible refine (H1.out _).mono ?_); rintro e w1 ⟨rfl, rfl⟩)
      | (go_at_call 44; (with_reducible refine (H2.out _).mono ?_); rintro e w1 ⟨rfl, rfl⟩)
      | (go_at_call 51; refine (F.out _).mono ?_; rintro e w1 ⟨rfl, hb1⟩; replace hb1 := Lib.hid hb1)
      | (go_at_call 52; refine (M.out _).mono ?_; rintro e w2 ⟨rfl, hb2⟩; replace hb2 := Lib.hid (nextB hb1.out hb2))
      | (go_at_call 48; refine (B.out _).mono ?_; rintro e w3 ⟨rfl, hg3, _⟩; have hb3 := Lib.hid (nextB hb2.out ⟨hg3.os, hg3.tape, hg3.output, hg3.size, fun i hi => hg3.block i hi (by simp)⟩); clear hg3; simp only [Option.getD_some, Option.isSome_some]))
    have hbx := Lib.hid (Blk.new w3 60 (hC h))
    have x0 := cellX (hbx.out.c 0 rfl)
    have x1 := cellX (hbx.out.c 1 rfl)
    refine wp_region_ext (by kernel_rfl) (by kernel_rfl) ?_
    repeat (go_big_quiet_step (fail))
    refine wpQuiet_nil ?_
    rintro ⟨w4, hw4⟩
    dsimp only
    go_wp2
    go_ret3
    exact Ret.mk rfl (nextB (nextB hb3.out (b1 _ _)) hw4)
theorem Euclid_no (n l : Int) (w : World) (h : ¬ (HeapP n ∧ HeapP l)) : Calls Try.prog 24 #[.int .i64 n, .int .i64 l] w (Only (twoV 0 0 2) w) := by
  have H1 := isHeap_any n
  have H2 := isHeap_any l
  by_cases h1 : HeapP n
  · have h2 : ¬ HeapP l := fun h2 => h ⟨h1, h2⟩
    rw [decide_eq_true h1] at H1
    rw [decide_eq_false h2] at H2
    replace H1 := Lib.hid H1
    replace H2 := Lib.hid H2
    clear h h1 h2
    go_enter Try.func24, Try.ntmps24
    go_wp2_with (first
      | (go_at_call 44; (with_reducible refine (H1.out _).mono ?_); rintro e w1 ⟨rfl, rfl⟩)
      | (go_at_call 44; (with_reducible refine (H2.out _).mono ?_); rintro e w1 ⟨rfl, rfl⟩))
    go_ret3
    exact Only.mk rfl
  · rw [decide_eq_false h1] at H1
    replace H1 := Lib.hid H1
    clear h h1 H2
    go_enter Try.func24, Try.ntmps24
    go_wp2_with (go_at_call 44; (with_reducible refine (H1.out _).mono ?_); rintro e w1 ⟨rfl, rfl⟩)
    go_ret3
    exact Only.mk rfl
end Go.Proofs.Ytdafpjapepfniaa
