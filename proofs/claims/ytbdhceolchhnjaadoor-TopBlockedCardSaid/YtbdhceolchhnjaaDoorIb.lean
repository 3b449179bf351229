/- Layers 3 and 4: TopBlocked returns true, and changes nothing. -/
import Derived.Test.YtbdhceolchhnjaaDoorIa
namespace Go.Proofs.YtbdhceolchhnjaaDoor
open Go Go.RowKit

theorem dots_cut {n : Nat} (h1 : 1 ≤ n) (h5 : n ≤ 5) (W : World) : (Instr.slice 9 (.string { data := #[46, 46, 46, 46, 46, 46, 46, 46, 46] }) none (some (.int .i64 (n : Nat))) none).run Tryd.prog W = .ok (.string (emp n)) W := by
  have : n = 1 ∨ n = 2 ∨ n = 3 ∨ n = 4 ∨ n = 5 := by omega
  rcases this with e | e | e | e | e <;> subst e
  · exact (show _ = _ by kernel_rfl)
  · exact (show _ = _ by kernel_rfl)
  · exact (show _ = _ by kernel_rfl)
  · exact (show _ = _ by kernel_rfl)
  · exact (show _ = _ by kernel_rfl)
set_option maxRecDepth 100000 in
set_option maxHeartbeats 4000000 in
theorem blocked_any (x : Int) (a : Option Addr) (m c : Nat) (R : List Int) (w : World) (h : Ints w a R) (hl : R.length = m) (hmc : m ≤ c) (_hnil : a = none → c = 0) (hT : Tab w) :
    Calls Tryd.prog 9 #[.int .i64 x, .slice a m c] w (Ret (.bool true) w) := by
  have V := Lib.hid (fun W (hW : Below w.heap.size w W) => voted_any W (hT.next hW))
  have hT' := Lib.hid (fun W (hW : Below w.heap.size w W) => hT.next hW)
  have B00 : Below w.heap.size w w := Below.refl _ _
  by_cases h12 : m ≤ 12
  · have IR := Lib.hid (Vo.refIsRule_any x a m c R w h hl (by omega))
    by_cases hR : Vo.RuleI x R
    · rw [decide_eq_true hR] at IR
      obtain ⟨hx, hP⟩ := hR
      obtain ⟨n, rfl⟩ : ∃ n : Nat, x = (n : Int) := ⟨x.toNat, by omega⟩
      rw [Int.toNat_natCast] at hP
      have h1 := hP.1
      have h5 := hP.2.1
      have hF := rule_field hP (by omega)
      have hPO := othL_rule hP
      have OT := Lib.hid (fun W (hW : Below w.heap.size w W) => (show Calls Tryd.prog 38 #[.int .i64 (n : Nat), .slice a m c] W (Vo.GotI (othL n R) W) from Vo.Other_yes a n c m R W (h.next hW) hl (by omega) hmc hP))
      have DC := dots_cut h1 h5
      have EW : psB (emp n) 119 n = 0 := psB_emp (by omega) n (Nat.le_refl _)
      have ED : psB (emp n) 100 n = 0 := psB_emp (by omega) n (Nat.le_refl _)
      have WIN : Hid (∀ (t : ByteArray) (R' : List Int) (b : Bool) (a' : Option Addr) (n' c' : Nat), isSide t = true → FieldP n R' → R'.length = n' → win n R' 0 0 (sideN t == 1) = b → ∀ W, Ints W a' R' → Tab W → Calls Tryd.prog 12 #[.int .i64 (n : Nat), .slice a' n' c', .string (emp n), .string t] W (Ret (.tuple #[.string (ltr (sd b)), .int .i64 0]) W)) := Lib.hid (fun t R' b a' n' c' h1 h2 h3 h4 W hW hTW => by
        have tn := tE_pos (s := emp n) (t := t) (pE_pos h2 (emp_size n) (emp_ok n)) h1
        have := Winner_any (n : Int) a' n' c' R' (emp n) t W hW h3 hTW
        rw [winS_pos tn, tn, EW, ED, h4] at this
        exact this)
      obtain ⟨p, hp⟩ : ∃ p, win n R 0 0 false = p := ⟨_, rfl⟩
      obtain ⟨q, hq⟩ : ∃ q, win n R 0 0 true = q := ⟨_, rfl⟩
      have hb1 : win n (othL n R) 0 0 true = !p := by rw [win_block hP, ← hp]; rfl
      have hb2 : win n (othL n R) 0 0 false = !q := by rw [win_block hP, ← hq]; rfl
      have K1 := WIN.out strW R p a m c isSide_W hF hl (by rw [sideN_W]; exact hp)
      have K3 := WIN.out strD R q a m c isSide_D hF hl (by rw [sideN_D]; exact hq)
      have K2 := fun (h0 : (othL n R).length ≤ 12) a' c' => WIN.out strD (othL n R) (!p) a' (othL n R).length c' isSide_D (rule_field hPO h0) rfl (by rw [sideN_D]; exact hb1)
      have K4 := fun (h0 : (othL n R).length ≤ 12) a' c' => WIN.out strW (othL n R) (!q) a' (othL n R).length c' isSide_W (rule_field hPO h0) rfl (by rw [sideN_W]; exact hb2)
      unfold strW at K1 K4
      unfold strD at K2 K3
      have hI := Lib.hid (fun W (hW : Below w.heap.size w W) => h.next hW)
      have lp := ltr_list p
      have lnp := ltr_list (!p)
      have lq := ltr_list q
      have lnq := ltr_list (!q)
      have hno : ∀ b : Bool, (if (!b) = true then [119] else [100] : List UInt8) = if b = true then [100] else [119] := fun b => by cases b <;> rfl
      rw [hno] at lnp lnq
      generalize ltr (sd p) = Lp at *
      generalize ltr (sd (!p)) = Lnp at *
      generalize ltr (sd q) = Lq at *
      generalize ltr (sd (!q)) = Lnq at *
      generalize othL n R = OL at *
      generalize hol : OL.length = ol at *
      replace hol := Lib.hid hol
      replace K1 := Lib.hid K1
      replace K2 := Lib.hid K2
      replace K3 := Lib.hid K3
      replace K4 := Lib.hid K4
      clear h hl hT hP hPO hp hq hb1 hb2 WIN EW ED hF _hnil hno
      generalize emp n = sE at *
      go_enter Tryd.func9, Tryd.ntmps9
      go_wp2_with fail
      refine IR.out.mono ?_
      rintro e w1 ⟨rfl, hb1⟩
      dsimp only
      go_wp2_with fail
      refine (OT.out _ hb1).mono ?_
      rintro e w2 ⟨a2, c2, rfl, _, hI2, hb2⟩
      dsimp only
      have B2 := nextB hb1 hb2
      clear IR OT hb2 hb1
      rw [hol.out]
      by_cases h0 : ol ≤ 12
      · have k2 := Lib.hid (K2.out h0)
        have k4 := Lib.hid (K4.out h0)
        clear K2 K4
        go_wp2_with fail
        refine (K1.out _ (hI.out _ B2) (hT'.out _ B2)).mono ?_
        rintro e w3 ⟨rfl, hb3⟩
        dsimp only
        have B3 := nextB B2 hb3
        have hI3 := hI2.next hb3
        clear hb3 hI2 K1 B2
        go_wp2_with fail
        refine (k2.out a2 c2 _ hI3 (hT'.out _ B3)).mono ?_
        rintro e w4 ⟨rfl, hb4⟩
        dsimp only
        have B4 := nextB B3 hb4
        have hI4 := hI3.next hb4
        clear hb4 hI3 k2 B3
        cases p <;> simp only [Bool.false_eq_true, if_false, if_true] at lp lnp
        all_goals
          go_wp2_with fail
          refine (K3.out _ (hI.out _ B4) (hT'.out _ B4)).mono ?_
          rintro e w5 ⟨rfl, hb5⟩
          dsimp only
          have B5 := nextB B4 hb5
          have hI5 := hI4.next hb5
          clear hb5 hI4 B4
          go_wp2_with fail
          refine (k4.out a2 c2 _ hI5 (hT'.out _ B5)).mono ?_
          rintro e w6 ⟨rfl, hb6⟩
          dsimp only
          have B6 := nextB B5 hb6
          clear hb6 hI5 B5
          cases q <;> simp only [Bool.false_eq_true, if_false, if_true] at lq lnq
          all_goals
            go_wp2_with (go_at_call 36; refine (V.out _ B6).mono ?_; rintro e w7 ⟨rfl, hb7⟩)
            go_ret
            exact Ret.mk rfl (nextB B6 hb7)
      · have h0' : 12 < ol := by omega
        go_wp2_with (go_at_call 36; refine (V.out _ B2).mono ?_; rintro e w7 ⟨rfl, hb7⟩)
        go_ret
        exact Ret.mk rfl (nextB B2 hb7)
    · rw [decide_eq_false hR] at IR
      clear h hl hT hR
      go_enter Tryd.func9, Tryd.ntmps9
      go_wp2_with fail
      refine IR.out.mono ?_
      rintro e w1 ⟨rfl, hb1⟩
      dsimp only
      go_wp2_with (go_at_call 36; refine (V.out _ hb1).mono ?_; rintro e w7 ⟨rfl, hb7⟩)
      go_ret
      exact Ret.mk rfl (nextB hb1 hb7)
  · have h13 : 12 < m := by omega
    clear h hl hT h12
    go_enter Tryd.func9, Tryd.ntmps9
    go_wp2_with (go_at_call 36; refine (V.out _ B00).mono ?_; rintro e w7 ⟨rfl, hb7⟩)
    go_ret
    exact Ret.mk rfl hb7
end Go.Proofs.YtbdhceolchhnjaaDoor
