/- BrandsConway: Of and Round undo each other; Of succeeds exactly if Closed is true and the list sums to 3 n - 6: the walk. -/
import Derived.Test.YtflbaadfbjpakaaMh
import Derived.Test.YtflbaadfbjpakaaEe
namespace Go.Proofs.Ytflbaadfbjpakaa
open Go Go.RowKit

theorem brand_ofL {n : Nat} {L : List (Int × Int)} (hB : BrandP n L) : ofL (roundL n L) = some L := by
  obtain ⟨m, hm, h9, hf, hs⟩ := brand_nat hB
  obtain rfl : n = m + 3 := by omega
  exact ofL_round hf hs h9
/-- What Of returns, for every list. -/
def OfAll (xs : List Int) (w : World) (e : Ending) (w' : World) : Prop :=
  Below w.heap.size w w' ∧ ((∃ M a' c', RoundP xs ∧ ofL xs = some M ∧ e = .returned (.tuple #[.slice a' M.length c', .int .i64 0]) ∧ Prs w' a' M ∧ M.length ≤ c' ∧ M.length ≤ 13) ∨
    (∃ er : Int, ((¬ RoundP xs ∧ er = 2) ∨ (RoundP xs ∧ ofL xs = none ∧ er = 10)) ∧ e = .returned (.tuple #[.slice none 0 0, .int .i64 er])))
theorem Of_any (a : Option Addr) (n c : Nat) (xs : List Int) (w : World) (h : Ints w a xs) (hn : xs.length = n) (hm : n ≤ 4611686018427387904) :
    Calls Try.prog 26 #[.slice a n c] w (OfAll xs w) := by
  by_cases hR : RoundP xs
  · refine (Of_yes a n c xs w h hn hR).mono ?_
    rintro e w' ⟨hb, h1 | ⟨M, a', c', h1, h2, h3, h4, h5⟩⟩
    · exact ⟨hb, .inr ⟨10, .inr ⟨hR, h1.1, rfl⟩, h1.2⟩⟩
    · exact ⟨hb, .inl ⟨M, a', c', hR, h1, h2, h3, h4, h5⟩⟩
  · refine (Of_no a n c xs w h hn hm hR).mono ?_
    rintro e w' ⟨rfl, rfl⟩
    exact ⟨Below.refl _ _, .inr ⟨2, .inl ⟨hR, rfl⟩, rfl⟩⟩
theorem sum_take (xs : List Int) (i : Nat) (hi : i < xs.length) : (xs.take (i + 1)).sum = (xs.take i).sum + nth xs i := by
  rw [take_nth hi, List.sum_append]
  simp
theorem sum_bd {xs : List Int} (h : RoundP xs) : ∀ i, i ≤ xs.length → 0 ≤ (xs.take i).sum ∧ (xs.take i).sum ≤ 12 * i := by
  intro i
  induction i with
  | zero => intro _; simp
  | succ i ih =>
    intro hi
    have h1 := ih (by omega)
    have h2 := h.2.2 i (by omega)
    rw [sum_take xs i (by omega)]
    omega
set_option maxRecDepth 100000 in
set_option maxHeartbeats 4000000 in
theorem conway_law (n : Int) (a : Option Addr) (len cap : Nat) (L : List (Int × Int)) (a2 : Option Addr) (len2 cap2 : Nat) (xs : List Int) (w : World) (h : Prs w a L) (hl : L.length = len) (hcap : len ≤ cap) (_hnil : a = none → cap = 0)
    (h2 : Ints w a2 xs) (hl2 : xs.length = len2) (_hcap2 : len2 ≤ cap2) (_hnil2 : a2 = none → cap2 = 0) :
    Calls Try.prog 10 #[.int .i64 n, .slice a len cap, .slice a2 len2 cap2] w (Ret (.bool true) w) := by
  by_cases hgo : len ≤ 60 ∧ len2 ≤ 60
  · obtain ⟨h60, h61⟩ := hgo
    have OF := Lib.hid (fun W (hW : Below w.heap.size w W) => Of_any a2 len2 cap2 xs W (h2.next hW) hl2 (by omega))
    have CL := Lib.hid (fun W (hW : Below w.heap.size w W) => Closed_any a2 len2 cap2 xs W (h2.next hW) hl2 (by omega))
    have IR := Lib.hid (fun W (hW : Below w.heap.size w W) => refIsRound_any a2 len2 cap2 xs W (h2.next hW) hl2 (by omega))
    by_cases hB : BrandP n L
    case' pos =>
      have hk3 := hB.1
      obtain ⟨n, rfl⟩ : ∃ k : Nat, n = k := ⟨n.toNat, by omega⟩
      have hofb := brand_ofL hB
      have hrl := roundL_length n L
      have hRP := brand_roundP hB
      have hn12 : n ≤ 12 := by have := hB.2.1; omega
      have RR := Lib.hid (Round_yes n a len cap L w h hl hcap hB)
      have OB := Lib.hid (fun g W (hI : Ints W (some ⟨g, 0, none⟩) (roundL n L)) => Of_any (some ⟨g, 0, none⟩) n n (roundL n L) W hI (roundL_length n L) (by omega))
      have PB := Lib.hid (fun a' c' W (hp : Prs W a' L) (hW : Below w.heap.size w W) => show Calls Try.prog 25 #[.slice a' L.length c', .slice a len cap] W (Ret (.bool true) W) from by
        have := pairs_any a' a L.length len c' cap L L W hp (h.next hW) rfl hl (by omega) (by omega)
        rwa [decide_eq_true rfl] at this)
      have IB := Lib.hid (fun W (hW : Below w.heap.size w W) => show Calls Try.prog 18 #[.int .i64 n, .slice a len cap] W (Ret (.bool true) W) from by
        have := IsBrand_any n a len cap L W (h.next hW) hl hcap (by omega)
        rwa [decide_eq_true hB] at this)
      clear hB
      replace hrl := Lib.hid hrl
      replace hl := Lib.hid hl
      replace hl2 := Lib.hid hl2
      go_enter Try.func10, Try.ntmps10
      go_wp2_with fail
      refine RR.out.mono ?_
      intro e w1 hg
      obtain ⟨g, rfl, hI, hb1⟩ := gotR_ints hg
      dsimp only
      clear hg
      go_wp2_with fail
      refine (OB.out g w1 hI).mono ?_
      rintro e w2 ⟨hb2, ⟨M, a', c', _, h3, rfl, hp, _, _⟩ | ⟨er, h3, _⟩⟩
      rotate_left
      · rcases h3 with ⟨h3, _⟩ | ⟨_, h3, _⟩
        · exact absurd hRP h3
        · rw [hofb] at h3; cases h3
      rw [hofb] at h3
      cases h3
      clear hofb hRP
      dsimp only
      replace hb2 := nextB hb1 hb2
      clear hb1 hI
      go_wp2_with fail
      refine (PB.out _ _ _ hp hb2).mono ?_
      rintro e w3 ⟨rfl, hb3⟩
      dsimp only
      replace hb2 := nextB hb2 hb3
      clear hb3 hp
      go_wp2_with (go_at_call 18; refine (IB.out _ hb2).mono ?_; rintro e w4 ⟨rfl, hb4⟩; have B0 := nextB hb2 hb4)
      replace hl := hl.out
      replace hl2 := hl2.out
      clear PB IB OB RR hb2 hb4 hrl hk3 hn12
    case' neg =>
      have RN := Lib.hid (Round_no n a len cap L w h hl hcap (by omega) hB)
      clear hB
      go_enter Try.func10, Try.ntmps10
      go_wp2_with fail
      refine RN.out.mono ?_
      rintro e w1 ⟨rfl, hb1⟩
      dsimp only
      go_wp2_with fail
      have B0 := hb1
      clear hb1 RN
      obtain ⟨w4, hw4⟩ : ∃ w4, w4 = w1 := ⟨_, rfl⟩
      subst hw4
    all_goals (
      refine (OF.out _ B0).mono ?_
      rintro e w5 ⟨hb5, ⟨M, a5, c5, hR, hM, rfl, hp5, hc5, _⟩ | ⟨er, her, rfl⟩⟩
      · have hG := (ofL_iff hR.tame hR.1 hR.2.1).1 ⟨M, hM⟩
        obtain ⟨hcl, hsum⟩ := (good_iff (by have := hR.1; omega)).1 hG
        obtain ⟨hfM, hsM, hrM⟩ := ofL_brand hR.tame hR.1 hM
        have hBM := full_brand hfM hsM (by have := hR.2.1; omega)
        have hcE : closE xs = .tuple #[.bool true, .int .i64 0] := by unfold closE; rw [if_pos hR, decide_eq_true hcl]
        have IR1 := Lib.hid (fun W hW => show Calls _ _ _ W (Only (.bool true) W) from by
          have := IR.out W hW
          rwa [decide_eq_true hR] at this)
        have CL1 := Lib.hid (fun W hW => CL.out W hW)
        rw [hcE] at CL1
        rw [hl2] at hBM hsum hrM
        have h3 := hR.1
        have h12 := hR.2.1
        have hst := Lib.hid (fun i (hi : i < len2) => sum_take xs i (by omega))
        have hsb := Lib.hid (fun i (hi : i ≤ len2) => sum_bd hR i (by omega))
        have hend : Hid ((xs.take len2).sum = 3 * (len2 : Int) - 6) := Lib.hid (by rw [List.take_of_length_le (by omega)]; exact hsum)
        obtain ⟨b, off, rfl, hc⟩ := ints_at h2 (by omega)
        rw [hl2] at hc
        have RM := Lib.hid (fun W (hW : Below w5.heap.size w5 W) => Round_yes len2 a5 M.length c5 M W (hp5.next hW) rfl hc5 hBM)
        have SM := Lib.hid (fun g W (hI : Ints W (some ⟨g, 0, none⟩) (roundL len2 M)) (hW : Below w.heap.size w W) => show Calls Try.prog 24 #[.slice (some ⟨g, 0, none⟩) len2 len2, .slice (some ⟨b, off, none⟩) len2 cap2] W (Ret (.bool true) W) from by
          rw [hrM] at hI
          have := same_any (some ⟨g, 0, none⟩) (some ⟨b, off, none⟩) len2 len2 len2 cap2 xs xs W hI (h2.next hW) hl2 hl2 (by omega) (by omega)
          rwa [decide_eq_true rfl] at this)
        have hn12 : len2 ≤ 12 := by omega
        clear hG hcl hsum hfM hsM hrM hBM hcE hl hl2 h h2 hp5 OF CL IR hR hM
        dsimp only
        replace B0 := nextB B0 hb5
        go_wp2_with fail
        refine (CL1.out _ B0).mono ?_
        rintro e w6 ⟨rfl, hb6⟩
        dsimp only
        replace B0 := nextB B0 hb6
        have D0 := hb6
        clear hb6 hb5
        go_wp2_with (go_at_call 44; refine (IR1.out _ B0).mono ?_; rintro e w7 ⟨rfl, rfl⟩)
        go_loop [14, 15] (fun s i => ∃ k : Nat, k ≤ len2 ∧ i = .int .i64 k ∧ s = .int .i64 ((xs.take k).sum)) (fun _ i => len2 - (intOf i).toNat)
        case atStart => exact ⟨0, by omega, rfl, by simp⟩
        case round =>
          obtain ⟨k, hk, rfl, rfl⟩ := hrel
          have hb1 := hsb.out k hk
          by_cases hlt : k < len2
          · have x0 := cellB B0 (hc k hlt)
            have hb2 := hsb.out (k + 1) hlt
            have hs1 := Lib.hid (hst.out k hlt)
            rw [hs1.out] at hb2
            generalize (xs.take k).sum = s0 at *
            generalize nth xs k = y at *
            go_wp2_with fail
            go_round
            case rel => exact ⟨k + 1, by omega, by go_num, by rw [hs1.out]⟩
            case measure => simp [intOf]; omega
          · obtain rfl : k = len2 := by omega
            rw [hend.out]
            clear hb1 hst hsb hend hc
            go_wp2_with fail
            refine (RM.out _ D0).mono ?_
            intro e w8 hg
            obtain ⟨g, rfl, hI, hb8⟩ := gotR_ints hg
            dsimp only
            replace B0 := nextB B0 hb8
            clear hg hb8 D0
            go_wp2_with fail
            refine (SM.out g _ hI B0).mono ?_
            rintro e w9 ⟨rfl, hb9⟩
            dsimp only
            replace B0 := nextB B0 hb9
            clear hb9 hI
            go_wp2_with (go_at_call 17; refine (alive_any _).mono ?_; rintro e w10 ⟨rfl, hb10⟩)
            go_ret
            exact Ret.mk rfl (nextB B0 hb10)
      · rcases her with ⟨hR, rfl⟩ | ⟨hR, hM, rfl⟩
        · have hcE : closE xs = .tuple #[.bool false, .int .i64 2] := by unfold closE; rw [if_neg hR]
          have IR1 := Lib.hid (fun W hW => show Calls _ _ _ W (Only (.bool false) W) from by
            have := IR.out W hW
            rwa [decide_eq_false hR] at this)
          have CL1 := Lib.hid (fun W hW => CL.out W hW)
          rw [hcE] at CL1
          clear hcE hl hl2 h h2 OF CL IR hR
          dsimp only
          replace B0 := nextB B0 hb5
          clear hb5
          go_wp2_with fail
          refine (CL1.out _ B0).mono ?_
          rintro e w6 ⟨rfl, hb6⟩
          dsimp only
          replace B0 := nextB B0 hb6
          clear hb6
          go_wp2_with (first
            | (go_at_call 44; refine (IR1.out _ B0).mono ?_; rintro e w7 ⟨rfl, rfl⟩)
            | (go_at_call 17; refine (alive_any _).mono ?_; rintro e w10 ⟨rfl, hb10⟩))
          go_ret
          exact Ret.mk rfl (nextB B0 hb10)
        · have hG := (ofL_none hR.tame hR.1 hR.2.1).1 hM
          have hno : ¬ (ClosedP xs ∧ xs.sum = 3 * xs.length - 6) := fun hh => hG ((good_iff (by have := hR.1; omega)).2 hh)
          have hcE : closE xs = .tuple #[.bool (decide (ClosedP xs)), .int .i64 0] := by unfold closE; rw [if_pos hR]
          have IR1 := Lib.hid (fun W hW => show Calls _ _ _ W (Only (.bool true) W) from by
            have := IR.out W hW
            rwa [decide_eq_true hR] at this)
          have CL1 := Lib.hid (fun W hW => CL.out W hW)
          rw [hcE] at CL1
          rw [hl2] at hno
          have h3 := hR.1
          have h12 := hR.2.1
          have hst := Lib.hid (fun i (hi : i < len2) => sum_take xs i (by omega))
          have hsb := Lib.hid (fun i (hi : i ≤ len2) => sum_bd hR i (by omega))
          have hend : Hid ((xs.take len2).sum = xs.sum) := Lib.hid (by rw [List.take_of_length_le (by omega)])
          have hcc : Hid (decide (ClosedP xs) = false ∨ (decide (ClosedP xs) = true ∧ (xs.sum == 3 * (len2 : Int) - 6) = false)) := Lib.hid (by
            by_cases hcl : ClosedP xs
            · right; exact ⟨decide_eq_true hcl, by rw [beq_eq_false_iff_ne]; exact fun e => hno ⟨hcl, e⟩⟩
            · left; exact decide_eq_false hcl)
          obtain ⟨b, off, rfl, hc⟩ := ints_at h2 (by omega)
          rw [hl2] at hc
          have hn12 : len2 ≤ 12 := by omega
          clear hG hcE hl hl2 h h2 OF CL IR hR hM hno
          generalize decide (ClosedP xs) = cb at *
          dsimp only
          replace B0 := nextB B0 hb5
          go_wp2_with fail
          refine (CL1.out _ B0).mono ?_
          rintro e w6 ⟨rfl, hb6⟩
          dsimp only
          replace B0 := nextB B0 hb6
          clear hb6 hb5
          go_wp2_with (go_at_call 44; refine (IR1.out _ B0).mono ?_; rintro e w7 ⟨rfl, rfl⟩)
          go_loop [14, 15] (fun s i => ∃ k : Nat, k ≤ len2 ∧ i = .int .i64 k ∧ s = .int .i64 ((xs.take k).sum)) (fun _ i => len2 - (intOf i).toNat)
          case atStart => exact ⟨0, by omega, rfl, by simp⟩
          case round =>
            obtain ⟨k, hk, rfl, rfl⟩ := hrel
            have hb1 := hsb.out k hk
            by_cases hlt : k < len2
            · have x0 := cellB B0 (hc k hlt)
              have hb2 := hsb.out (k + 1) hlt
              have hs1 := Lib.hid (hst.out k hlt)
              rw [hs1.out] at hb2
              generalize (xs.take k).sum = s0 at *
              generalize nth xs k = y at *
              go_wp2_with fail
              go_round
              case rel => exact ⟨k + 1, by omega, by go_num, by rw [hs1.out]⟩
              case measure => simp [intOf]; omega
            · obtain rfl : k = len2 := by omega
              rw [hend.out] at hb1 ⊢
              have hcc' := hcc.out
              clear hst hsb hend hc hcc
              generalize xs.sum = ss at *
              rcases hcc' with rfl | ⟨rfl, hq⟩
              · go_wp2_with (go_at_call 17; refine (alive_any _).mono ?_; rintro e w10 ⟨rfl, hb10⟩)
                go_ret
                exact Ret.mk rfl (nextB B0 hb10)
              · go_wp2_with (go_at_call 17; refine (alive_any _).mono ?_; rintro e w10 ⟨rfl, hb10⟩)
                go_ret
                exact Ret.mk rfl (nextB B0 hb10))
  · have hcase : 60 < len ∨ (len ≤ 60 ∧ 60 < len2) := by omega
    clear hgo h hl h2 hl2
    rcases hcase with h1 | ⟨h1, h3⟩
    all_goals (
      go_enter Try.func10, Try.ntmps10
      go_wp2_with (go_at_call 17; refine (alive_any _).mono ?_; rintro e w2 ⟨rfl, hb2⟩)
      go_ret
      exact Ret.mk rfl hb2)
end Go.Proofs.Ytflbaadfbjpakaa
