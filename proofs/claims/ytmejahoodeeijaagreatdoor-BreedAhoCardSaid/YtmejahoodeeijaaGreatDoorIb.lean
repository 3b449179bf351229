/- Layer 5, by the program: Shows. -/
import Derived.Test.YtmejahoodeeijaaGreatDoorIa
namespace Go.Proofs.YtmejahoodeeijaaGreatDoor
open Go Go.RowKit

/-- What Shows returns. -/
noncomputable def shoE (n : Int) (b : List UInt8) (L : List T3) : Bool × Int :=
  if numB n = false then (false, 2) else match trO n.toNat b with
  | none => (false, 5)
  | some t => if memE n L = 0 then (L.all (shoB t), 0) else (false, memE n L)
theorem memE_num {n : Int} {L : List T3} (h : numB n = true) : memE n L = if 60 < L.length then 3 else if L.all (isT n) then 0 else 2 := by
  unfold memE; rw [h]; simp
set_option maxRecDepth 100000 in
set_option maxHeartbeats 1000000 in
theorem Shows_any (n : Int) (s : List UInt8) (a : Option Addr) (l c : Nat) (L : List T3) (w : World) (h : Trips w a L) (hl : L.length = l) (hl9 : l ≤ 1000) (hT : Tab w) :
    Calls Tryz.prog 23 #[.int .i64 n, strV s, .slice a l c] w (Ret (.tuple #[.bool (shoE n s L).1, .int .i64 (shoE n s L).2]) w) := by
  unfold shoE
  cases hn : numB n
  · have K := Lib.hid (treeOf_bad n s w hn)
    simp only [if_true]
    clear hn hT h
    go_enter Tryz.func23, Tryz.ntmps23
    go_wp2_with (go_at_call 44; refine K.out.mono ?_; rintro e w1 ⟨rfl, rfl⟩)
    go_ret2
    exact Ret.mk rfl (Below.refl _ _)
  · obtain ⟨m, rfl, h1, h8⟩ := numB_nat hn
    rw [Int.toNat_natCast]
    simp only [Bool.true_eq_false, if_false]
    have K := Lib.hid (treeO_any m s w h1 h8 hT)
    have M := Lib.hid (fun W hW => memoriesOf_any (m : Nat) a l c L W hW hl hl9)
    replace h := Lib.hid h
    replace hT := Lib.hid hT
    clear hn
    generalize trO m s = o at *
    cases o with
    | none =>
      dsimp only
      go_enter Tryz.func23, Tryz.ntmps23
      go_wp2_with fail
      refine K.out.mono ?_
      rintro e w2 ⟨hb2, ⟨t, v, hh, _, _, rfl⟩ | ⟨_, rfl⟩⟩
      · cases hh
      · go_wp2
        go_ret2
        exact Ret.mk rfl hb2
    | some t =>
      dsimp only
      unfold memV at M
      by_cases h0 : memE m L = 0
      · rw [if_pos h0] at M
        rw [if_pos h0]
        obtain ⟨m', hm', _, _, hok, _⟩ := memE_ok h0
        replace hok := Lib.hid hok
        replace hl := Lib.hid hl
        clear h0 hm'
        obtain ⟨r, hr⟩ : ∃ r, Hid (L.all (shoB t) = r) := ⟨_, Lib.hid rfl⟩
        rw [hr.out]
        go_enter Tryz.func23, Tryz.ntmps23
        go_wp2_with fail
        refine K.out.mono ?_
        rintro e w2 ⟨hb2, ⟨t', v, hh, hg, hv, rfl⟩ | ⟨hh, rfl⟩⟩
        · simp only [Option.some.injEq] at hh
          subst hh
          have hv2 := Lib.hid hv
          clear hv hg
          go_wp2_with (go_at_call 55; (with_reducible refine (M.out _ (h.out.next hb2)).mono ?_); rintro e w3 ⟨rfl, hb3⟩)
          replace hb2 := nextB hb2 hb3
          have hv3 := Lib.hid (hv2.out.next hb3)
          clear hb3 hv2
          go_loopw [33] (fun i wr => ∃ k : Nat, k ≤ l ∧ i = .int .i64 k ∧ Hid ((L.take k).all (shoB t) = true) ∧ Below w3.heap.size w3 wr) (fun i _ => l - (intOf i).toNat)
          case atStart => exact ⟨0, Nat.zero_le _, rfl, Lib.hid (by simp), Below.refl _ _⟩
          case round =>
            obtain ⟨k, hk, rfl, hall, B0⟩ := hrel
            by_cases hlt : k < l
            · have hkl : k < L.length := by rw [hl.out]; exact hlt
              obtain ⟨b, off, rfl, hc⟩ := trips_at (h.out.next (nextB hb2 B0)) (by omega)
              obtain ⟨z0, z1, z2⟩ := hc k hkl
              obtain ⟨x, y, z, et, hx, hy, hz⟩ := okT_of (hok.out _ (tth_mem hkl)) (by omega)
              rw [et] at z0 z1 z2
              dsimp only at z0 z1 z2
              have hki : (k : Int) < (l : Int) := by omega
              clear hc
              have E := Lib.hid (all_take_succ (p := shoB t) hkl)
              have N := Lib.hid (all_take_no (p := shoB t) hkl)
              have bn := Lib.hid (nextB B0 (b1 wr (.cells #[.int .i64 (x : Int), .int .i64 (y : Int), .int .i64 (z : Int)] 52)))
              have S := Lib.hid (shows_any _ t v x y z hx hy hz _ (hv3.out.next bn.out))
              rw [et] at E N
              replace et := Lib.hid et
              obtain ⟨r0, hr0⟩ : ∃ r0, Hid (shoB t ((x : Int), (y : Int), (z : Int)) = r0) := ⟨_, Lib.hid rfl⟩
              rw [hr0.out] at E N S
              cases r0
              · go_wp2_with (go_at_call 53; (with_reducible refine S.out.mono ?_); rintro e w4 ⟨rfl, hb4⟩)
                go_ret2
                have hrf : r = false := by rw [← hr.out]; exact N.out trivial
                subst hrf
                exact Ret.mk rfl (nextB hb2 (nextB bn.out hb4))
              · go_wp2_with (go_at_call 53; (with_reducible refine S.out.mono ?_); rintro e w4 ⟨rfl, hb4⟩)
                go_roundw
                case rel => exact ⟨k + 1, by omega, by go_num, Lib.hid (by rw [E.out, hall.out]; rfl), nextB bn.out hb4⟩
                case measure => simp [intOf]; omega
            · obtain rfl : k = l := by omega
              have hrt : r = true := by
                rw [← hr.out, ← hall.out]
                congr 1
                rw [← hl.out, List.take_length]
              subst hrt
              go_wp2
              go_ret2
              exact Ret.mk rfl (nextB hb2 B0)
        · cases hh
      · rw [if_neg h0] at M
        rw [if_neg h0]
        have hne : (memE m L != 0) = true := by rw [bne_iff_ne]; exact h0
        clear h0
        generalize memE m L = er at *
        go_enter Tryz.func23, Tryz.ntmps23
        go_wp2_with fail
        refine K.out.mono ?_
        rintro e w2 ⟨hb2, ⟨t', v, hh, hg, hv, rfl⟩ | ⟨hh, rfl⟩⟩
        · clear hv hg hh
          go_wp2_with (go_at_call 55; (with_reducible refine (M.out _ (h.out.next hb2)).mono ?_); rintro e w3 ⟨rfl, hb3⟩)
          go_ret2
          exact Ret.mk rfl (nextB hb2 hb3)
        · cases hh
end Go.Proofs.YtmejahoodeeijaaGreatDoor
