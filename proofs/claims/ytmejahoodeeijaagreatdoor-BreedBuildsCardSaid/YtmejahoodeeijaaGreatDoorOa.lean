/- Layer 5, by the program: Joined. -/
import Derived.Test.YtmejahoodeeijaaGreatDoorFc
import Derived.Test.YtmejahoodeeijaaGreatDoorEd
namespace Go.Proofs.YtmejahoodeeijaaGreatDoor
open Go Go.RowKit

/-- What Joined returns: the parts and an error. -/
def joiE (n : Int) (L : List T3) (x : Int) : List Nat × Int :=
  if memE n L = 0 then (if stB n.toNat x then (partsL L x.toNat, 0) else ([], 2)) else ([], memE n L)
def JoinR (r : List Nat × Int) (w : World) (e : Ending) (w' : World) : Prop :=
  ∃ v, e = .returned (.tuple #[v, .int .i64 r.2]) ∧ w'.ownsRow w.heap.size 3 1 v r.1.length (lN r.1) ∧ Below w.heap.size w w'
set_option maxRecDepth 100000 in
set_option maxHeartbeats 2000000 in
theorem Joined_any (n x : Int) (a : Option Addr) (l c : Nat) (L : List T3) (w : World) (hTr : Trips w a L) (hl : L.length = l) (hl9 : l ≤ 1000) (hT : Tab w) :
    Calls Tryz.prog 29 #[.int .i64 n, .slice a l c, .int .i64 x] w (JoinR (joiE n L x) w) := by
  have M := memoriesOf_any n a l c L w hTr hl hl9
  unfold memV at M
  unfold joiE
  by_cases h0 : memE n L = 0
  · rw [if_pos h0] at M
    rw [if_pos h0]
    obtain ⟨m, rfl, h1, h8, hok, _⟩ := memE_ok h0
    rw [Int.toNat_natCast]
    have S := Lib.hid (fun W => setOf_any m x h8 W)
    by_cases hs : stB m x
    · rw [if_pos hs] at S
      rw [if_pos hs]
      obtain ⟨s, rfl, hs0, hs9⟩ : ∃ s : Nat, x = (s : Int) ∧ 0 < s ∧ s < 512 := by
        unfold stB at hs
        simp only [Bool.and_eq_true, decide_eq_true_eq] at hs
        have := pw_mono (k := 8) h8
        have h256 : pw 8 = 256 := rfl
        exact ⟨x.toNat, by omega, by omega, by omega⟩
      rw [Int.toNat_natCast]
      have J := Lib.hid (fun W hW hW2 => joined_any a l c s L W hW hl hl9 (fun t ht => okT_of (hok t ht) (by omega)) hs9 hs0 hW2)
      have hlen := Lib.hid (show (partsL L s).length ≤ 9 by unfold partsL sortN; rw [List.length_mergeSort]; exact join_len hs9 L)
      obtain ⟨ps, hps⟩ : ∃ p, Hid (partsL L s = p) := ⟨_, Lib.hid rfl⟩
      rw [hps.out] at J hlen
      rw [hps.out]
      obtain ⟨i0, hi, hz0, hz1, hz2⟩ := info_parts infoInt
      have G0 := Lib.hid hi
      have G1 := Lib.hid hz0
      have G2 := Lib.hid hz1
      have G3 := Lib.hid hz2
      clear hi hz0 hz1 hz2 hl hok hs
      replace M := Lib.hid M
      replace hTr := Lib.hid hTr
      replace hT := Lib.hid hT
      go_enter Tryz.func29, Tryz.ntmps29
      go_wp2_with (first
        | (go_at_call 55; (with_reducible refine M.out.mono ?_); rintro e w1 ⟨rfl, hb1⟩)
        | (go_at_call 64; (with_reducible refine (S.out _).mono ?_); rintro e w2 ⟨rfl, rfl⟩)
        | (go_at_call 61; (with_reducible refine (J.out _ (hTr.out.next hb1) (hT.out.next hb1)).mono ?_); rintro e w3 ⟨v3, rfl, ho3, hb3⟩; obtain ⟨a3, c3, rfl, hc3, hS3⟩ := own_sets ho3 rfl))
      have B3 := nextB hb1 hb3
      have hsz := B3.size
      obtain ⟨q, hq⟩ : ∃ q, Hid (ps.length = q) := ⟨_, Lib.hid rfl⟩
      rw [hq.out]
      rw [hq.out] at hlen
      clear ho3 hc3 hb1 hb3
      replace hS3 := Lib.hid hS3
      replace B3 := Lib.hid B3
      go_loopw [11, 36] (fun v i wr => ∃ k : Nat, k ≤ q ∧ i = .int .i64 k ∧ wr.ownsRow w3.heap.size 3 1 v k (lN (ps.take k)) ∧ Below w3.heap.size w3 wr) (fun _ i _ => q - (intOf i).toNat)
      case atStart => exact ⟨0, Nat.zero_le _, rfl, World.ownsRow_nil _ _ _ _, Below.refl _ _⟩
      case round =>
        obtain ⟨k, hk, rfl, hown, B0⟩ := hrel
        by_cases hlt : k < q
        · have hkl : k < ps.length := by rw [hq.out]; exact hlt
          have hki : (k : Int) < (q : Int) := by omega
          rcases hS3.out with h0 | ⟨b, off, rfl, hc⟩
          · omega
          · have x0 := cellB B0 (hc k hkl)
            have E := Lib.hid (show lN (ps.take (k + 1)) = lN (ps.take k) ++ [.int .i64 ((ps.getD k 0 : Nat) : Int)] by rw [take_snocN ps k hkl, lN_snoc])
            have hlt2 := Lib.hid hown.lt
            generalize lN (ps.take k) = xs at *
            generalize ((ps.getD k 0 : Nat) : Int) = y at *
            clear hc hS3
            have hq9 := hlen.out
            go_wp2_with (at_builtin; refine wpList_append_own _ rfl _ _ 39 rfl w3.heap.size 3 i0 (.int .i64 0) 1 8 Tryz.underlying39 G0.out G1.out G2.out G3.out rfl (by decide) _ _ _ rfl (hown.alloc _) ⟨_, 0, none⟩ 1 1 [.int .i64 y] rfl rfl (cell_one_new _ _ _) (by simp [Value.oneCell']) (by unfold maxLen; omega) (by omega) (by have := B0.size; simp; omega) ?_; intro v' w4 hown4 hgrow _)
            have hs1 := B0.size
            have B2 := (B0.alloc (by omega) (.cells #[.int .i64 y] 3)).grown hgrow (by simp; omega) (fun q hq => by have := (hlt2.out q hq).1; omega)
            go_roundw
            case rel => exact ⟨k + 1, by omega, by go_num, by rw [E.out]; exact hown4, B2⟩
            case measure => simp [intOf]; omega
        · obtain rfl : k = q := by omega
          have e : ps.take k = ps := by rw [← hq.out, List.take_length]
          rw [e] at hown
          have B4 := B3.out.trans (B0.mono hsz)
          replace hown := Lib.hid (owns_base hown hsz)
          go_wp2
          go_ret2
          exact ⟨_, rfl, by dsimp only; rw [hq.out]; exact hown.out, B4⟩
    · rw [if_neg hs] at S
      rw [if_neg hs]
      clear hl hok hs
      replace M := Lib.hid M
      go_enter Tryz.func29, Tryz.ntmps29
      go_wp2_with (first
        | (go_at_call 55; (with_reducible refine M.out.mono ?_); rintro e w1 ⟨rfl, hb1⟩)
        | (go_at_call 64; (with_reducible refine (S.out _).mono ?_); rintro e w2 ⟨rfl, rfl⟩))
      go_ret2
      exact ⟨_, rfl, World.ownsRow_nil _ _ _ _, hb1⟩
  · rw [if_neg h0] at M
    rw [if_neg h0]
    have h0b : (memE n L != 0) = true := by rw [bne_iff_ne]; exact h0
    generalize memE n L = r at *
    clear hl
    replace M := Lib.hid M
    go_enter Tryz.func29, Tryz.ntmps29
    go_wp2_with (first
      | (go_at_call 55; (with_reducible refine M.out.mono ?_); rintro e w1 ⟨rfl, hb1⟩))
    go_ret2
    exact ⟨_, rfl, World.ownsRow_nil _ _ _ _, hb1⟩
end Go.Proofs.YtmejahoodeeijaaGreatDoor
