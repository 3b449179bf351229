/- BrandsEars: two ones, no two of them neighbours; cut at one and glued again: the walk. -/
import Derived.Test.YtflbaadfbjpakaaFf
import Derived.Test.YtflbaadfbjpakaaLw
namespace Go.Proofs.Ytflbaadfbjpakaa
open Go Go.RowKit

set_option maxRecDepth 100000 in
set_option maxHeartbeats 4000000 in
theorem ears_law (n : Int) (a : Option Addr) (len cap : Nat) (L : List (Int × Int)) (w : World) (h : Prs w a L) (hl : L.length = len) (hcap : len ≤ cap) (_hnil : a = none → cap = 0) :
    Calls Try.prog 14 #[.int .i64 n, .slice a len cap] w (Ret (.bool true) w) := by
  by_cases hgo : len ≤ 60 ∧ 3 < n ∧ BrandP n L
  · obtain ⟨h60, h4, hB⟩ := hgo
    obtain ⟨n, rfl⟩ : ∃ k : Nat, n = k := ⟨n.toNat, by omega⟩
    have hn12 : n ≤ 12 := by have := hB.2.1; omega
    have h4' : 4 ≤ n := by omega
    have I := Lib.hid (show Calls _ _ _ w (Ret (.bool true) w) from by
      have := refIsBrand_any n a len cap L w h hl (by omega)
      rwa [decide_eq_true hB] at this)
    have RR := Lib.hid (fun W (hW : Below w.heap.size w W) => (Round_yes n a len cap L W (h.next hW) hl hcap hB).mono fun _ _ hg => gotR_ints hg)
    have EF := Lib.hid (fun c (hc : c < n) h1 => ear_facts hB h4' hc h1)
    have E2 := ears_two hB h4'
    have hRL := Lib.hid (roundL_length n L)
    have hE0 : Hid (cntO (roundL n L) 0 = 0) := Lib.hid rfl
    have hEs := Lib.hid (fun k => show cntO (roundL n L) (k + 1) = cntO (roundL n L) k + if nth (roundL n L) k = 1 then 1 else 0 from rfl)
    have hEl := Lib.hid (cntO_le (roundL n L))
    clear h hl hB
    generalize roundL n L = R at *
    generalize cntO R = ct at *
    go_enter Try.func14, Try.ntmps14
    go_wp2_with (go_at_call 19; refine I.out.mono ?_; rintro e w1 ⟨rfl, hb1⟩)
    refine (RR.out _ hb1).mono ?_
    rintro e w2 ⟨g, rfl, hI, hb2⟩
    dsimp only
    replace hb2 := nextB hb1 hb2
    clear hb1 RR I
    go_wp2_with fail
    go_loopw [7, 8, 9, 10, 11, 12, 13, 14] (fun e c _ _ _ _ _ _ wr => ∃ k : Nat, k ≤ n ∧ c = .int .i64 k ∧ e = .int .i64 (ct k : Nat) ∧ Ints wr (some ⟨g, 0, none⟩) R ∧ Below w.heap.size w wr) (fun _ c _ _ _ _ _ _ _ => n - (intOf c).toNat)
    case atStart => exact ⟨0, by omega, rfl, by rw [hE0.out]; rfl, hI, hb2⟩
    case round =>
      clear hI hb2
      obtain ⟨k, hk, rfl, rfl, hI, B0⟩ := hrel
      have hck := hEl.out k
      by_cases hlt : k < n
      · obtain ⟨b, off, e0, hc⟩ := ints_at hI (by rw [hRL.out]; omega)
        cases e0
        rw [hRL.out] at hc
        simp only [Nat.zero_add] at hc
        have x0 := hc k hlt
        have hs := Lib.hid (hEs.out k)
        by_cases h1 : nth R k = 1
        · obtain ⟨q1, q2, q3, q4, q5, q6, q7, q8, s0, hs0, q9⟩ := EF.out k hlt h1
          obtain ⟨m3, m4, m5⟩ := mod_at1 k n (by omega)
          have hm : (k + 1) % n < n := Nat.mod_lt _ (by omega)
          have x1 := hc _ hm
          have hq1 : (nth R ((k + 1) % n) == 1) = false := by rw [beq_eq_false_iff_ne]; omega
          have CU := Lib.hid (Cut_any (some ⟨g, 0, none⟩) n n k R wr hI hRL.out (by omega))
          unfold GotI at CU
          rw [q2, q3, q4] at CU
          have OFA := Lib.hid (fun a1 c1 W (hI1 : Ints W a1 (cutL R k)) => Of_any a1 (n - 1) c1 (cutL R k) W hI1 q4 (by omega))
          have hcv : (((k : Int) + (n : Int) - 2) % ((n : Int) - 1)) = (((k + n - 2) % (n - 1) : Nat) : Int) := by rw [Int.natCast_emod]; congr 1 <;> omega
          replace hcv := Lib.hid hcv
          have GL := Lib.hid (fun a1 c1 W (hI1 : Ints W a1 (cutL R k)) => Glue_any a1 (n - 1) c1 (((k + n - 2) % (n - 1) : Nat) : Int) (cutL R k) W hI1 q4 (by omega))
          have hgl : (glueL (cutL R k) ((k + n - 2) % (n - 1))).length = n := by rw [glueL_length _ _ (by rw [q4]; exact Nat.mod_lt _ (by omega)), q4]; omega
          unfold GotI at GL
          rw [q7, q8, hgl] at GL
          have TU := Lib.hid (fun a2 c2 W (hI1 : Ints W (some ⟨g, 0, none⟩) R) (hI2 : Ints W a2 (glueL (cutL R k) ((k + n - 2) % (n - 1)))) => show Calls Try.prog 46 #[.slice (some ⟨g, 0, none⟩) n n, .slice a2 n c2] W (Ret (.bool true) W) from by
            obtain ⟨b1, o1, z1, hc1⟩ := ints_at hI1 (by rw [hRL.out]; omega)
            obtain ⟨b2, o2, rfl, hc2⟩ := ints_at hI2 (by rw [hgl]; omega)
            cases z1
            rw [hRL.out] at hc1
            rw [hgl] at hc2
            exact turned_yes _ _ n _ _ c2 n s0 R _ W hc1 hc2 (by omega) (by omega) hs0 q9)
          rw [if_pos h1] at hs
          rw [h1] at x0
          clear q1 q2 q3 q4 q7 q8 q9 hs0 hgl hc EF
          generalize hcL : cutL R k = X at *
          generalize hgL : glueL X ((k + n - 2) % (n - 1)) = Y at *
          clear hcL hgL
          have hn1 : ((n - 1 : Nat) : Int) = (n : Int) - 1 := by omega
          generalize nth R ((k + 1) % n) = y1 at *
          clear h1
          go_wp2_with fail
          refine CU.out.mono ?_
          rintro e w3 ⟨a3, c3, rfl, hI3, _, hb3⟩
          dsimp only
          replace hI := hI.next hb3
          replace B0 := nextB B0 hb3
          clear hb3 CU x0 x1
          go_wp2_with fail
          refine (OFA.out _ _ _ hI3).mono ?_
          rintro e w4 ⟨hb4, ⟨M, a4, c4, _, _, rfl, _, _, _⟩ | ⟨er, her, _⟩⟩
          rotate_left
          · rcases her with ⟨h3, _⟩ | ⟨_, h3, _⟩
            · exact absurd q5 h3
            · exact absurd h3 q6
          dsimp only
          replace hI := hI.next hb4
          replace hI3 := hI3.next hb4
          replace B0 := nextB B0 hb4
          clear hb4 OFA q5 q6
          go_wp2_with fail
          rw [hcv.out]
          refine (GL.out _ _ _ hI3).mono ?_
          rintro e w5 ⟨a5, c5, rfl, hI5, _, hb5⟩
          dsimp only
          replace hI := hI.next hb5
          replace B0 := nextB B0 hb5
          clear hb5 GL hI3
          go_wp2_with fail
          refine (TU.out _ _ _ hI hI5).mono ?_
          rintro e w6 ⟨rfl, hb6⟩
          dsimp only
          replace hI := hI.next hb6
          replace B0 := nextB B0 hb6
          clear hb6 TU hI5
          go_wp2_with fail
          go_roundw
          case rel => exact ⟨k + 1, by omega, by go_num, by rw [hs.out]; go_num, hI, B0⟩
          case measure => simp [intOf]; omega
        · have hy : (nth R k != 1) = true := by rw [bne_iff_ne]; exact h1
          rw [if_neg h1] at hs
          generalize nth R k = y at *
          clear h1 hc
          go_wp2_with fail
          go_roundw
          case rel => exact ⟨k + 1, by omega, by go_num, by rw [hs.out]; rfl, hI, B0⟩
          case measure => simp [intOf]; omega
      · obtain rfl : k = n := by omega
        have hE2 : (2 : Int) ≤ (ct k : Int) := by omega
        go_wp2_with (go_at_call 17; refine (alive_any _).mono ?_; rintro e w9 ⟨rfl, hb9⟩)
        go_ret
        exact Ret.mk rfl (nextB B0 hb9)
  · have hcase : 60 < len ∨ (len ≤ 60 ∧ n ≤ 3) ∨ (len ≤ 60 ∧ 3 < n ∧ ¬ BrandP n L) := by
      by_cases h1 : len ≤ 60
      · by_cases h2 : 3 < n
        · exact .inr (.inr ⟨h1, h2, fun h3 => hgo ⟨h1, h2, h3⟩⟩)
        · exact .inr (.inl ⟨h1, by omega⟩)
      · exact .inl (by omega)
    clear hgo
    rcases hcase with h1 | ⟨h1, h2⟩ | ⟨h1, h2, h3⟩
    · clear h hl
      go_enter Try.func14, Try.ntmps14
      go_wp2_with (go_at_call 17; refine (alive_any _).mono ?_; rintro e w2 ⟨rfl, hb2⟩)
      go_ret
      exact Ret.mk rfl hb2
    · clear h hl
      go_enter Try.func14, Try.ntmps14
      go_wp2_with (go_at_call 17; refine (alive_any _).mono ?_; rintro e w2 ⟨rfl, hb2⟩)
      go_ret
      exact Ret.mk rfl hb2
    · have I := Lib.hid (show Calls _ _ _ w (Ret (.bool false) w) from by
        have := refIsBrand_any n a len cap L w h hl (by omega)
        rwa [decide_eq_false h3] at this)
      clear h hl h3
      go_enter Try.func14, Try.ntmps14
      go_wp2_with (first
        | (go_at_call 19; refine I.out.mono ?_; rintro e w1 ⟨rfl, hb1⟩)
        | (go_at_call 17; refine (alive_any _).mono ?_; rintro e w2 ⟨rfl, hb2⟩))
      go_ret
      exact Ret.mk rfl (nextB hb1 hb2)
end Go.Proofs.Ytflbaadfbjpakaa
