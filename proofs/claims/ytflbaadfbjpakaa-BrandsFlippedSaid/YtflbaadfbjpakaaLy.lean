/- BrandsFlipped: Flip turns one line alone, and back: the walk. -/
import Derived.Test.YtflbaadfbjpakaaFg
namespace Go.Proofs.Ytflbaadfbjpakaa
open Go Go.RowKit

def atJ (j0 t : Nat) : Int := if j0 < t then j0 else -1
def otJ (j0 t : Nat) : Int := if j0 < t then 1 else 0
set_option maxRecDepth 100000 in
set_option maxHeartbeats 4000000 in
theorem flipped_law (n : Int) (a : Option Addr) (len cap : Nat) (L : List (Int × Int)) (s : Nat) (w : World) (h : Prs w a L) (hl : L.length = len) (hcap : len ≤ cap) (_hnil : a = none → cap = 0) (hs : s ≤ 255) :
    Calls Try.prog 15 #[.int .i64 n, .slice a len cap, .int .u8 s] w (Ret (.bool true) w) := by
  by_cases hgo : len ≤ 60 ∧ 3 < n ∧ BrandP n L
  · obtain ⟨h60, h4, hB⟩ := hgo
    obtain ⟨n, rfl⟩ : ∃ k : Nat, n = k := ⟨n.toNat, by omega⟩
    have hn12 : n ≤ 12 := by have := hB.2.1; omega
    have hln : len + 3 = n := by have := hB.2.2.1; omega
    have I := Lib.hid (show Calls _ _ _ w (Ret (.bool true) w) from by
      have := refIsBrand_any n a len cap L w h hl (by omega)
      rwa [decide_eq_true hB] at this)
    obtain ⟨i, hi, hil⟩ : ∃ i : Nat, (s : Int) % (len : Int) = (i : Int) ∧ i < len := by
      have h1 := Int.emod_nonneg (s : Int) (show (len : Int) ≠ 0 by omega)
      have h2 := Int.emod_lt_of_pos (s : Int) (show (0 : Int) < len by omega)
      exact ⟨((s : Int) % (len : Int)).toNat, by omega, by omega⟩
    obtain ⟨f1, f2, j0, hj0, f3, f4, f5, f6⟩ := flip_facts hB (i := i) (by omega)
    have hfl := flipL_length n L i (by omega)
    have FL := Lib.hid (fun W (hW : Below w.heap.size w W) => show Calls Try.prog 40 #[.int .i64 n, .slice a len cap, .int .i64 i] W (fun e w' => ∃ a' c', e = .returned (.tuple #[.slice a' len c', .int .i64 0]) ∧ Prs w' a' (flipL n L i) ∧ len ≤ c' ∧ Below W.heap.size W w') from
      (Flip_yes n a len cap L i W (h.next hW) hl hcap hB hil f2).mono fun e w' ⟨a', c', h1, h2, h3, h4⟩ => ⟨a', c', by rw [h1, hl], h2, by omega, h4⟩)
    have IB := Lib.hid (fun a' c' W (hp : Prs W a' (flipL n L i)) (hc : len ≤ c') => show Calls Try.prog 18 #[.int .i64 n, .slice a' len c'] W (Ret (.bool true) W) from by
      have := IsBrand_any n a' len c' (flipL n L i) W hp (by omega) hc (by omega)
      rwa [decide_eq_true f1] at this)
    have FB := Lib.hid (fun a' c' W (hp : Prs W a' (flipL n L i)) (hc : len ≤ c') => show Calls Try.prog 40 #[.int .i64 n, .slice a' len c', .int .i64 j0] W (fun e w' => ∃ a2 c2, e = .returned (.tuple #[.slice a2 len c2, .int .i64 0]) ∧ Prs w' a2 L ∧ Below W.heap.size W w') from
      (Flip_yes n a' len c' (flipL n L i) j0 W hp (by omega) hc f1 (by omega) f5).mono fun e w' ⟨a2, c2, h1, h2, h3, h4⟩ => ⟨a2, c2, by rw [h1, hfl, hl], by rw [f6] at h2; exact h2, h4⟩)
    have PB := Lib.hid (fun a' c' W (hp : Prs W a' L) (hW : Below w.heap.size w W) => show Calls Try.prog 25 #[.slice a' len c', .slice a len cap] W (Ret (.bool true) W) from by
      have := pairs_any a' a len len c' cap L L W hp (h.next hW) hl hl (by omega) (by omega)
      rwa [decide_eq_true rfl] at this)
    rw [hl] at hj0 f3 f4 hfl
    have hin := Lib.hid (fun k (hk : k < len) => show (∃ j, j < len ∧ pth L j = pth (flipL n L i) k) ↔ k ≠ j0 from by
      rw [← f3 k hk, in_pth, hl])
    have hne := Lib.hid f4
    obtain ⟨bL, oL, rfl, hcL⟩ := prs_at h (by omega)
    rw [hl] at hcL
    replace hcL := Lib.hid hcL
    replace hfl := Lib.hid hfl
    clear h hl hB f1 f2 f3 f4 f5 f6
    generalize flipL n L i = X at *
    go_enter Try.func15, Try.ntmps15
    go_wp2_with (go_at_call 19; refine I.out.mono ?_; rintro e w1 ⟨rfl, hb1⟩)
    try simp only [hi]
    refine (FL.out _ hb1).mono ?_
    rintro e w2 ⟨aX, cX, rfl, hX, hcX, hb2⟩
    dsimp only
    replace hb2 := nextB hb1 hb2
    clear hb1 FL I
    go_wp2_with fail
    refine (IB.out _ _ _ hX hcX).mono ?_
    rintro e w3 ⟨rfl, hb3⟩
    dsimp only
    replace hX := hX.next hb3
    replace hb2 := nextB hb2 hb3
    clear hb3 IB
    obtain ⟨bX, oX, rfl, hcX2⟩ := prs_at hX (by rw [hfl.out]; omega)
    rw [hfl.out] at hcX2
    have hcX3 := Lib.hid hcX2
    clear hcX2
    try simp only [hi]
    go_wp2_with fail
    have ha0 : Hid (atJ j0 0 = -1) := Lib.hid (by unfold atJ; rw [if_neg (by omega)])
    have ho0 : Hid (otJ j0 0 = 0) := Lib.hid (by unfold otJ; rw [if_neg (by omega)])
    have ha1 : Hid (∀ t, t = j0 → atJ j0 (t + 1) = (t : Int) ∧ otJ j0 (t + 1) = otJ j0 t + 1) := Lib.hid fun t e => by unfold atJ otJ; rw [if_pos (by omega), if_pos (by omega), if_neg (by omega)]; exact ⟨by omega, rfl⟩
    have ha2 : Hid (∀ t, t ≠ j0 → atJ j0 (t + 1) = atJ j0 t ∧ otJ j0 (t + 1) = otJ j0 t) := Lib.hid fun t e => by
      unfold atJ otJ
      by_cases h : j0 < t
      · rw [if_pos (by omega), if_pos (by omega), if_pos (by omega), if_pos (by omega)]; exact ⟨rfl, rfl⟩
      · rw [if_neg (by omega), if_neg (by omega), if_neg (by omega), if_neg (by omega)]; exact ⟨rfl, rfl⟩
    have ha3 : Hid (atJ j0 len = j0 ∧ otJ j0 len = 1) := Lib.hid (by unfold atJ otJ; rw [if_pos hj0, if_pos hj0]; exact ⟨rfl, rfl⟩)
    have hob : Hid (∀ t, 0 ≤ otJ j0 t ∧ otJ j0 t ≤ 1) := Lib.hid fun t => by unfold otJ; split <;> omega
    generalize atJ j0 = af at *
    generalize otJ j0 = ot at *
    have C0 := Below.refl w3.heap.size w3
    go_loopw [10, 11, 12, 13, 14] (fun at_ o k _ _ wr => ∃ t : Nat, t ≤ len ∧ k = .int .i64 t ∧ at_ = .int .i64 (af t) ∧ o = .int .i64 (ot t) ∧ Below w3.heap.size w3 wr) (fun _ _ k _ _ _ => len - (intOf k).toNat)
    case atStart => exact ⟨0, by omega, rfl, by rw [ha0.out], by rw [ho0.out], C0⟩
    case round =>
      clear C0
      obtain ⟨t, ht, rfl, rfl, rfl, C0⟩ := hrel
      have hot := hob.out t
      by_cases hlt : t < len
      · have hin' := Lib.hid (hin.out t hlt)
        obtain ⟨z0, z1⟩ := hcX3.out t hlt
        go_wp2_with fail
        go_loopw [13, 14] (fun b_ j wr => ∃ (q : Nat) (b : Bool), q ≤ len ∧ j = .int .i64 q ∧ b_ = .bool b ∧ (b = true ↔ ∃ j, j < q ∧ pth L j = pth X t) ∧ Below w3.heap.size w3 wr) (fun _ j _ => len - (intOf j).toNat)
        case atStart => exact ⟨0, false, by omega, rfl, rfl, by simp, C0⟩
        case round =>
          clear C0
          obtain ⟨q, b, hq, rfl, rfl, hb, C0⟩ := hrel
          replace hb := Lib.hid hb
          by_cases hql : q < len
          · have x0 := cellX (cellB C0 z0)
            have x1 := cellX (cellB C0 z1)
            have y0 := cellX (cellB C0 (cellB hb2 (hcL.out q hql).1))
            have y1 := cellX (cellB C0 (cellB hb2 (hcL.out q hql).2))
            have hnx : Hid (∀ b2, (b2 = true ↔ (b = true ∨ pth L q = pth X t)) → (b2 = true ↔ ∃ j, j < q + 1 ∧ pth L j = pth X t)) := Lib.hid fun b2 h => by
              rw [h, hb.out]
              constructor
              · rintro (⟨j, hj, e⟩ | e)
                · exact ⟨j, by omega, e⟩
                · exact ⟨q, by omega, e⟩
              · rintro ⟨j, hj, e⟩
                by_cases hjq : j = q
                · subst hjq; exact .inr e
                · exact .inl ⟨j, by omega, e⟩
            clear hb
            cases b
            · have e1 := Lib.hid (hnx.out (eqP ((pth L q).1, (pth L q).2) ((pth X t).1, (pth X t).2)) (by rw [eqP_iff]; exact ⟨fun h => .inr h, fun h => h.resolve_left (by decide)⟩))
              clear hnx
              go_wp2_with fail
              refine wp_region_ext (by kernel_rfl) (by kernel_rfl) ?_
              repeat (go_big_quiet_step (fail))
              refine wpQuiet_nil ?_
              rintro ⟨w4, hw4⟩
              dsimp only
              replace C0 := nextB C0 hw4
              clear x0 x1 y0 y1 hw4
              go_wp2_with fail
              go_roundw
              case rel => exact ⟨q + 1, _, by omega, by go_num, rfl, e1.out, C0⟩
              case measure => simp [intOf]; omega
            · have e1 := Lib.hid (hnx.out true (by simp))
              clear hnx
              go_wp2_with fail
              refine wp_region_ext (by kernel_rfl) (by kernel_rfl) ?_
              repeat (go_big_quiet_step (fail))
              refine wpQuiet_nil ?_
              rintro ⟨w4, hw4⟩
              dsimp only
              replace C0 := nextB C0 hw4
              clear x0 x1 y0 y1 hw4
              go_wp2_with fail
              go_roundw
              case rel => exact ⟨q + 1, true, by omega, by go_num, rfl, by simpa using e1.out, C0⟩
              case measure => simp [intOf]; omega
          · obtain rfl : q = len := by omega
            have hbt : b = true ↔ t ≠ j0 := by rw [hb.out, hin'.out]
            clear hb hin' z0 z1
            cases b
            · have hst := Lib.hid (ha1.out t (Classical.byContradiction fun h => by have := hbt.2 h; cases this))
              clear hbt
              go_wp2_with fail
              go_roundw
              case rel => exact ⟨t + 1, by omega, by go_num, by rw [hst.out.1], by rw [hst.out.2], C0⟩
              case measure => simp [intOf]; omega
            · have hst := Lib.hid (ha2.out t (hbt.1 rfl))
              clear hbt
              go_wp2_with fail
              go_roundw
              case rel => exact ⟨t + 1, by omega, by go_num, by rw [hst.out.1], by rw [hst.out.2], C0⟩
              case measure => simp [intOf]; omega
      · obtain rfl : t = len := by omega
        rw [ha3.out.1, ha3.out.2]
        clear ha0 ho0 ha1 ha2 ha3 hob hin hot
        go_wp2_with fail
        have D0 := C0
        go_loopw [15] (fun k wr => ∃ q : Nat, q ≤ t ∧ k = .int .i64 q ∧ Below w3.heap.size w3 wr) (fun k _ => t - (intOf k).toNat)
        case atStart => exact ⟨0, by omega, rfl, D0⟩
        case round =>
          clear C0 D0
          obtain ⟨q, hq, rfl, C0⟩ := hrel
          by_cases hql : q < t
          · have x0 := cellX (cellB C0 (hcX3.out q hql).1)
            have x1 := cellX (cellB C0 (hcX3.out q hql).2)
            have y0 := cellX (cellB C0 (cellB hb2 (hcL.out i hil).1))
            have y1 := cellX (cellB C0 (cellB hb2 (hcL.out i hil).2))
            have hq2 : eqP ((pth X q).1, (pth X q).2) ((pth L i).1, (pth L i).2) = false := eqP_not.2 (hne.out q hql)
            go_wp2_with fail
            refine wp_region_ext (by kernel_rfl) (by kernel_rfl) ?_
            repeat (go_big_quiet_step (fail))
            refine wpQuiet_nil ?_
            rintro ⟨w4, hw4⟩
            dsimp only
            replace C0 := nextB C0 hw4
            clear x0 x1 y0 y1 hw4
            go_wp2_with fail
            go_roundw
            case rel => exact ⟨q + 1, by omega, by go_num, C0⟩
            case measure => simp [intOf]; omega
          · obtain rfl : q = t := by omega
            have FB' := Lib.hid (FB.out _ _ _ (hX.next C0) hcX)
            have B0 := nextB hb2 C0
            clear FB hX hne hcX3 hcL
            go_wp2_with fail
            refine FB'.out.mono ?_
            rintro e w5 ⟨a5, c5, rfl, hp5, hb5⟩
            dsimp only
            replace B0 := nextB B0 hb5
            clear hb5 FB'
            go_wp2_with fail
            refine (PB.out _ _ _ hp5 B0).mono ?_
            rintro e w6 ⟨rfl, hb6⟩
            dsimp only
            replace B0 := nextB B0 hb6
            clear hb6 hp5 PB
            go_wp2_with (go_at_call 17; refine (alive_any _).mono ?_; rintro e w9 ⟨rfl, hb9⟩)
            go_ret
            exact Ret.mk rfl (nextB B0 hb9)
  · have hcase : 60 < len ∨ (len ≤ 60 ∧ n ≤ 3) ∨ (len ≤ 60 ∧ 3 < n ∧ ¬ BrandP n L) := by
      by_cases h1 : len ≤ 60
      · by_cases h2 : 3 < n
        · exact .inr (.inr ⟨h1, h2, fun h3 => hgo ⟨h1, h2, h3⟩⟩)
        · exact .inr (.inl ⟨h1, by omega⟩)
      · exact .inl (by omega)
    clear hgo
    rcases hcase with h1 | ⟨h1, h2⟩ | ⟨h1, h2, h3⟩
    · clear h hl
      go_enter Try.func15, Try.ntmps15
      go_wp2_with (go_at_call 17; refine (alive_any _).mono ?_; rintro e w2 ⟨rfl, hb2⟩)
      go_ret
      exact Ret.mk rfl hb2
    · clear h hl
      go_enter Try.func15, Try.ntmps15
      go_wp2_with (go_at_call 17; refine (alive_any _).mono ?_; rintro e w2 ⟨rfl, hb2⟩)
      go_ret
      exact Ret.mk rfl hb2
    · have I := Lib.hid (show Calls _ _ _ w (Ret (.bool false) w) from by
        have := refIsBrand_any n a len cap L w h hl (by omega)
        rwa [decide_eq_false h3] at this)
      clear h hl h3
      go_enter Try.func15, Try.ntmps15
      go_wp2_with (first
        | (go_at_call 19; refine I.out.mono ?_; rintro e w1 ⟨rfl, hb1⟩)
        | (go_at_call 17; refine (alive_any _).mono ?_; rintro e w2 ⟨rfl, hb2⟩))
      go_ret
      exact Ret.mk rfl (nextB hb1 hb2)
end Go.Proofs.Ytflbaadfbjpakaa
