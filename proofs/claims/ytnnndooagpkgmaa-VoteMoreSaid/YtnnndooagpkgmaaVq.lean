/- Layer 3, by the program: the quota that fits some weights; factorials. -/
import Derived.Test.YtnnndooagpkgmaaVp
namespace Go.Proofs.Ytnnndooagpkgmaa
open Go Go.RowKit

def bigI : Int := 9223372036854775807
/-- The greatest sum of a set that loses, of the first ones. -/
def loseI (f : Nat → Bool) (S : Nat → Int) : Nat → Int
  | 0 => 0
  | j + 1 => if f j then loseI f S j else max (loseI f S j) (S j)
/-- The least sum of a set that wins, of the first ones. -/
def wonI (f : Nat → Bool) (S : Nat → Int) : Nat → Int
  | 0 => bigI
  | j + 1 => if f j then min (wonI f S j) (S j) else wonI f S j
def sumOf (ws : List Int) (s : Nat) : Int := wsum ws s ws.length
/-- The quota and whether it fits. -/
def quoI (f : Nat → Bool) (ws : List Int) : Int := loseI f (sumOf ws) (pw ws.length) + 1
def quoB (f : Nat → Bool) (ws : List Int) : Bool := decide (loseI f (sumOf ws) (pw ws.length) < wonI f (sumOf ws) (pw ws.length))
theorem loseI_bd {f : Nat → Bool} {S : Nat → Int} {M : Int} (hM : 0 ≤ M) (h : ∀ s, 0 ≤ S s ∧ S s ≤ M) (j : Nat) : 0 ≤ loseI f S j ∧ loseI f S j ≤ M := by
  induction j with
  | zero => exact ⟨Int.le_refl _, hM⟩
  | succ j ih =>
    have := h j
    rw [loseI]
    split <;> omega
theorem wonI_bd {f : Nat → Bool} {S : Nat → Int} {M : Int} (hM : M ≤ bigI) (h : ∀ s, 0 ≤ S s ∧ S s ≤ M) (j : Nat) : 0 ≤ wonI f S j ∧ wonI f S j ≤ bigI := by
  induction j with
  | zero => exact ⟨by unfold wonI bigI; decide, Int.le_refl _⟩
  | succ j ih =>
    have := h j
    rw [wonI]
    split <;> omega
def QuoIn (f : Nat → Bool) (S : Nat → Int) (n N M B g : Nat) (w : World) (x y i : Value) (wr : World) : Prop :=
  ∃ k : Nat, k ≤ M ∧ i = .int .i64 k ∧ x = .int .i64 (loseI f S k) ∧ y = .int .i64 (wonI f S k) ∧ Blk wr w.heap.size 60 #[.int .i64 (n : Nat), .slice (some ⟨B, 0, none⟩) N N] ∧ Below w.heap.size w wr ∧ (∀ s, s < M → wr.cell? ⟨g, s, none⟩ = some (.int .i64 (S s)))
set_option maxRecDepth 100000 in
set_option maxHeartbeats 4000000 in
theorem quota_any (n B : Nat) (f : Nat → Bool) (a : Option Addr) (k c : Nat) (ws : List Int) (w : World) (h8 : n ≤ 8) (hB : Bools w B (pw n) f) (h : Ints w a ws) (hl : ws.length = k) (hk : k ≤ n) (hw : Wts ws) :
    Calls Try.prog 80 #[gV n B (pw n), .slice a k c] w (Ret (.tuple #[.int .i64 (quoI f ws), .bool (quoB f ws)]) w) := by
  have hp8 : pw n ≤ 256 := by have := pw_mono h8; simpa [pw] using this
  have hkn : pw k ≤ pw n := pw_mono hk
  have S := Lib.hid (fun W hW => (show Calls Try.prog 67 #[.slice a k c] W (fun e w' => ∃ g, e = .returned (.slice (some ⟨g, 0, none⟩) (pw k) (pw k)) ∧ W.heap.size ≤ g ∧ (∀ s, s < pw k → w'.cell? ⟨g, s, none⟩ = some (.int .i64 (sumOf ws s))) ∧ Below W.heap.size W w') by
    have := sums_any a k c ws W hW hl (by omega) hw
    unfold SumsR at this
    unfold sumOf
    rw [hl] at this ⊢
    exact this))
  have hbd : ∀ s, 0 ≤ sumOf ws s ∧ sumOf ws s ≤ 8000 := fun s => by
    have := wsum_bd hw s ws.length (Nat.le_refl _)
    unfold sumOf
    omega
  have hlo := Lib.hid (fun j => loseI_bd (f := f) (M := 8000) (by omega) hbd j)
  have hwo := Lib.hid (fun j => wonI_bd (f := f) (M := 8000) (by unfold bigI; omega) hbd j)
  have hbd := Lib.hid hbd
  have hq : Hid (quoI f ws = loseI f (sumOf ws) (pw k) + 1 ∧ quoB f ws = decide (loseI f (sumOf ws) (pw k) < wonI f (sumOf ws) (pw k))) := Lib.hid (by unfold quoI quoB; rw [hl]; exact ⟨rfl, rfl⟩)
  obtain ⟨N, hN⟩ : ∃ N, Hid (pw n = N) := ⟨_, Lib.hid rfl⟩
  obtain ⟨M, hM⟩ : ∃ M, Hid (pw k = M) := ⟨_, Lib.hid rfl⟩
  rw [hN.out] at hp8 hkn hB ⊢
  rw [hM.out] at hkn S hq
  generalize sumOf ws = T at *
  replace hB := Lib.hid hB
  have h := Lib.hid h
  clear hl
  have hbig : Hid (wonI f T 0 = 9223372036854775807) := Lib.hid rfl
  go_enter Try.func80, Try.ntmps80
  go_wp2_with (go_at_call 67; refine (S.out _ (h.out.next (b1 _ _))).mono ?_; rintro e w1 ⟨g, rfl, hg, hs, hb1⟩; replace hs := Lib.hid hs)
  have G0 := (Blk.new w 60 #[.int .i64 (n : Nat), .slice (some ⟨B, 0, none⟩) N N]).ext hb1
  have B0 := nextB (b1 w (.cells #[.int .i64 (n : Nat), .slice (some ⟨B, 0, none⟩) N N] 60)) hb1
  clear hb1
  go_loopw [6, 7, 8, 9, 13] (fun x y _ _ i wr => QuoIn f T n N M B g w x y i wr) (fun _ _ _ _ i _ => M - (intOf i).toNat)
  case atStart => exact ⟨0, by omega, rfl, rfl, by rw [hbig.out], G0, B0, hs.out⟩
  case round =>
    clear G0 B0 hs
    obtain ⟨j, hj, rfl, rfl, rfl, G0, B0, hs⟩ := hrel
    replace hs := Lib.hid hs
    obtain ⟨l1, l2⟩ := hlo.out j
    have hwj := Lib.hid (hwo.out j)
    by_cases hlt : j < M
    · have hji : (j : Int) < (M : Int) := by omega
      have hjN : (j : Int) < (N : Int) := by omega
      have x0 := hs.out j hlt
      have x1 := cellB B0 (hB.out j (by omega))
      have g1 := G0.c 1 rfl
      replace G0 := Lib.hid G0
      have s1 := Lib.hid (show loseI f T (j + 1) = if f j then loseI f T j else max (loseI f T j) (T j) from rfl)
      have s2 := Lib.hid (show wonI f T (j + 1) = if f j then min (wonI f T j) (T j) else wonI f T j from rfl)
      generalize loseI f T j = L at *
      generalize wonI f T j = V at *
      obtain ⟨x, hx⟩ : ∃ x, Hid (T j = x) := ⟨_, Lib.hid rfl⟩
      rw [hx.out] at x0 s1 s2
      cases g : f j
      · rw [g] at x1 s1 s2
        replace g := Lib.hid g
        rcases Int.lt_trichotomy L x with e | e | e
        · have e2 : max L x = x := by omega
          have e2 := Lib.hid e2
          have e3 := Lib.hid e
          go_wp2
          go_roundw
          case rel => exact ⟨j + 1, by omega, by go_num, by rw [s1.out]; simp only [Bool.false_eq_true, if_false]; rw [e2.out], by rw [s2.out]; rfl, G0.out, B0, hs.out⟩
          case measure => simp [intOf]; omega
        · subst e
          have e2 : max L L = L := by omega
          have e2 := Lib.hid e2
          go_wp2
          go_roundw
          case rel => exact ⟨j + 1, by omega, by go_num, by rw [s1.out]; simp only [Bool.false_eq_true, if_false]; rw [e2.out], by rw [s2.out]; rfl, G0.out, B0, hs.out⟩
          case measure => simp [intOf]; omega
        · have e2 : max L x = L := by omega
          have e2 := Lib.hid e2
          go_wp2
          go_roundw
          case rel => exact ⟨j + 1, by omega, by go_num, by rw [s1.out]; simp only [Bool.false_eq_true, if_false]; rw [e2.out], by rw [s2.out]; rfl, G0.out, B0, hs.out⟩
          case measure => simp [intOf]; omega
      · rw [g] at x1 s1 s2
        replace g := Lib.hid g
        rcases Int.lt_trichotomy V x with e | e | e
        · have e2 : min V x = V := by omega
          have e2 := Lib.hid e2
          go_wp2
          go_roundw
          case rel => exact ⟨j + 1, by omega, by go_num, by rw [s1.out]; rfl, by rw [s2.out]; simp only [if_true]; rw [e2.out], G0.out, B0, hs.out⟩
          case measure => simp [intOf]; omega
        · subst e
          have e2 : min V V = V := by omega
          have e2 := Lib.hid e2
          go_wp2
          go_roundw
          case rel => exact ⟨j + 1, by omega, by go_num, by rw [s1.out]; rfl, by rw [s2.out]; simp only [if_true]; rw [e2.out], G0.out, B0, hs.out⟩
          case measure => simp [intOf]; omega
        · have e2 : min V x = x := by omega
          have e2 := Lib.hid e2
          go_wp2
          go_roundw
          case rel => exact ⟨j + 1, by omega, by go_num, by rw [s1.out]; rfl, by rw [s2.out]; simp only [if_true]; rw [e2.out], G0.out, B0, hs.out⟩
          case measure => simp [intOf]; omega
    · obtain rfl : j = M := by omega
      generalize loseI f T j = L at *
      generalize wonI f T j = V at *
      go_wp2
      go_ret2
      exact Ret.mk (show Value.tuple #[.int .i64 (L + 1), .bool (decide (L < V))] = _ by rw [hq.out.1, hq.out.2]) B0
end Go.Proofs.Ytnnndooagpkgmaa
