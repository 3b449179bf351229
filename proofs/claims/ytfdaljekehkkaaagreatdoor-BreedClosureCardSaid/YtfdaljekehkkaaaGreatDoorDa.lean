/- Layer 5, by the program: numbers and sets of beasts. -/
import Derived.Test.YtfdaljekehkkaaaGreatDoorTc
namespace Go.Proofs.YtfdaljekehkkaaaGreatDoor
open Go Go.RowKit

def numB (n : Int) : Bool := decide (1 ≤ n) && decide (n ≤ 8)
def beaB (n b : Int) : Bool := decide (0 ≤ b) && decide (b < n)
theorem isNumber_any (n : Int) (w : World) : Calls Tryz.prog 32 #[.int .i64 n] w (Only (.bool (numB n)) w) := by
  unfold numB
  cases h1 : decide (1 ≤ n)
  · go_enter Tryz.func32, Tryz.ntmps32
    go_wp2
    go_ret
    exact Only.mk rfl
  · cases h2 : decide (n ≤ 8)
    all_goals
      go_enter Tryz.func32, Tryz.ntmps32
      go_wp2
      go_ret
      exact Only.mk rfl
theorem isBeast_any (n b : Int) (w : World) : Calls Tryz.prog 36 #[.int .i64 n, .int .i64 b] w (Only (.bool (beaB n b)) w) := by
  unfold beaB
  cases h1 : decide (0 ≤ b)
  · go_enter Tryz.func36, Tryz.ntmps36
    go_wp2
    go_ret
    exact Only.mk rfl
  · cases h2 : decide (b < n)
    all_goals
      go_enter Tryz.func36, Tryz.ntmps36
      go_wp2
      go_ret
      exact Only.mk rfl
theorem all_any (m : Nat) (hm : m ≤ 9) (w : World) : Calls Tryz.prog 29 #[.int .i64 (m : Nat)] w (Only (.int .i64 ((pw m - 1 : Nat) : Int)) w) := by
  have sh := wrap_shl (k := m) (by omega)
  have hp := pw_le (i := m) (by omega)
  have hp1 := pw_pos m
  have hw : IntKind.i64.wrap (((pw m : Nat) : Int) - 1) = ((pw m - 1 : Nat) : Int) := by rw [IntWalk.i64_in _ (by omega)]; omega
  go_enter Tryz.func29, Tryz.ntmps29
  go_wp2
  go_ret
  exact Only.mk rfl
theorem beastBeasts_any (b : Nat) (hb : b ≤ 9) (w : World) : Calls Tryz.prog 48 #[.int .i64 (b : Nat)] w (Only (.int .i64 ((pw b : Nat) : Int)) w) := by
  have sh := wrap_shl (k := b) (by omega)
  go_enter Tryz.func48, Tryz.ntmps48
  go_wp2
  go_ret
  exact Only.mk rfl
theorem setBeasts_any (s : Int) (w : World) : Calls Tryz.prog 112 #[.int .i64 s] w (Only (.int .i64 s) w) := by
  go_enter Tryz.func112, Tryz.ntmps112
  go_wp2
  go_ret
  exact Only.mk rfl
theorem count_any (x : Nat) (hx : x < 512) (w : World) : Calls Tryz.prog 30 #[.int .i64 (x : Nat)] w (Only (.int .i64 (cntF x 9 : Nat)) w) := by
  have K := Lib.hid (ones_any x hx w)
  have hc : IntKind.u64.wrap (x : Int) = (x : Int) := by rw [IntKind.wrap_u64]; omega
  go_enter Tryz.func30, Tryz.ntmps30
  go_wp2_with (go_at_call 47; refine K.out.mono ?_; rintro e w1 ⟨rfl, rfl⟩)
  go_ret
  exact Only.mk rfl
theorem least_any (x : Nat) (hx : x < 512) (h0 : 0 < x) (w : World) (hT : Tab w) : Calls Tryz.prog 45 #[.int .i64 (x : Nat)] w (Only (.int .i64 (lowB x : Nat)) w) := by
  have K := Lib.hid (tz_any x hx h0 w hT)
  have hc : IntKind.u64.wrap (x : Int) = (x : Int) := by rw [IntKind.wrap_u64]; omega
  clear hT
  go_enter Tryz.func45, Tryz.ntmps45
  go_wp2_with (go_at_call 55; refine K.out.mono ?_; rintro e w1 ⟨rfl, rfl⟩)
  go_ret
  exact Only.mk rfl
theorem has_any (s o : Nat) (hs : s < 512) (ho : o < 512) (w : World) : Calls Tryz.prog 49 #[.int .i64 (s : Nat), .int .i64 (o : Nat)] w (Only (.bool (inB o s)) w) := by
  have e := i64_and_nat s o (by omega) (by omega)
  have h2 : inB o s = (((s &&& o : Nat) : Int) == (o : Int)) := by unfold inB; rw [Bool.eq_iff_iff]; simp; omega
  rw [h2]
  generalize s &&& o = z at *
  clear h2
  go_enter Tryz.func49, Tryz.ntmps49
  go_wp2
  go_ret
  exact Only.mk rfl
theorem meets_any (s o : Nat) (hs : s < 512) (ho : o < 512) (w : World) : Calls Tryz.prog 53 #[.int .i64 (s : Nat), .int .i64 (o : Nat)] w (Only (.bool (!(s &&& o == 0))) w) := by
  have e := i64_and_nat s o (by omega) (by omega)
  have h2 : (!(s &&& o == 0)) = !(((s &&& o : Nat) : Int) == 0) := by rw [Bool.eq_iff_iff]; simp
  rw [h2]
  generalize s &&& o = z at *
  clear h2
  go_enter Tryz.func53, Tryz.ntmps53
  go_wp2
  go_ret
  exact Only.mk (by first | rfl | simp; done)
/-- The set of some beasts. -/
def setW (bs : List Nat) : Nat := bs.foldl (fun s b => s ||| pw b) 0
theorem setW_snoc (bs : List Nat) (b : Nat) : setW (bs ++ [b]) = setW bs ||| pw b := by simp [setW]
theorem setW_lt {bs : List Nat} (h : ∀ b ∈ bs, b < 9) : setW bs < 512 := by
  have : ∀ (bs : List Nat) (s : Nat), s < 2 ^ 9 → (∀ b ∈ bs, b < 9) → bs.foldl (fun s b => s ||| pw b) s < 2 ^ 9 := by
    intro bs
    induction bs with
    | nil => intro s hs _; exact hs
    | cons b bs ih => intro s hs hb; exact ih _ (Nat.or_lt_two_pow hs (pw_lt (k := 9) (hb b (by simp)))) fun c hc => hb c (by simp [hc])
  exact this bs 0 (by decide) h
theorem take_snocN (xs : List Nat) (k : Nat) (h : k < xs.length) : xs.take (k + 1) = xs.take k ++ [xs.getD k 0] := by
  rw [List.take_succ_eq_append_getElem h, List.getD_eq_getElem?_getD, List.getElem?_eq_getElem h]; rfl
set_option maxRecDepth 100000 in
theorem setWith_any (b off c : Nat) (bs : List Nat) (w : World) (hb : ∀ x ∈ bs, x < 9) (hl : bs.length ≤ 1000) (hc : ∀ i, i < bs.length → w.cell? ⟨b, off + i, none⟩ = some (.int .i64 ((bs.getD i 0 : Nat) : Int))) :
    Calls Tryz.prog 38 #[.slice (some ⟨b, off, none⟩) bs.length c] w (Only (.int .i64 ((setW bs : Nat) : Int)) w) := by
  have HC := Lib.hid hc
  clear hc
  obtain ⟨n, hn⟩ : ∃ n, Hid (bs.length = n) := ⟨_, Lib.hid rfl⟩
  rw [hn.out] at hl ⊢
  go_enter Tryz.func38, Tryz.ntmps38
  go_wp2
  go_loop [3, 8] (fun s i => ∃ k : Nat, k ≤ n ∧ i = .int .i64 k ∧ s = .int .i64 ((setW (bs.take k) : Nat) : Int)) (fun _ i => n - (intOf i).toNat)
  case atStart => exact ⟨0, Nat.zero_le _, rfl, rfl⟩
  case round =>
    obtain ⟨k, hk, rfl, rfl⟩ := hrel
    have hs := setW_lt (bs := bs.take k) fun x hx => hb x (List.mem_of_mem_take hx)
    by_cases hlt : k < n
    · have hkl : k < bs.length := by rw [hn.out]; exact hlt
      have x0 := HC.out k hkl
      have hb9 : bs.getD k 0 < 9 := by rw [List.getD_eq_getElem?_getD, List.getElem?_eq_getElem hkl]; exact hb _ (List.getElem_mem hkl)
      have E := Lib.hid (show setW (bs.take (k + 1)) = setW (bs.take k) ||| pw (bs.getD k 0) by rw [take_snocN bs k hkl, setW_snoc])
      have sh := wrap_shl (k := bs.getD k 0) (by omega)
      have hp := pw_le (i := bs.getD k 0) (by omega)
      have ho := i64_or_nat (setW (bs.take k)) (pw (bs.getD k 0)) (by omega) (by omega)
      generalize setW (bs.take k) = s0 at *
      generalize bs.getD k 0 = b0 at *
      clear hb hp
      go_wp2
      go_round
      case rel => exact ⟨k + 1, by omega, by go_num, by rw [E.out]⟩
      case measure => simp [intOf]; omega
    · obtain rfl : k = n := by omega
      rw [show bs.take k = bs by rw [← hn.out, List.take_length]]
      go_wp2
      go_ret
      exact Only.mk rfl
end Go.Proofs.YtfdaljekehkkaaaGreatDoor
