/- Layer 4: AmbushLines returns true, and changes nothing. -/
import Derived.Test.YtbdhceolchhnjaaDoorHf
namespace Go.Proofs.YtbdhceolchhnjaaDoor
open Go Go.RowKit

theorem after_copy {w w6 w7 : World} {o : Obj} (B2 : Below w.heap.size w (w6.alloc o)) (hs : w.heap.size ≤ w6.heap.size) (hg : (w6.alloc o).grownBy w7 (Value.slice (some ⟨w6.heap.size, 0, none⟩) 0 0).ownBlock) : Below w.heap.size w w7 ∧ w.heap.size ≤ w7.heap.size := by
  have B3 := B2.grown hg B2.size (fun q hq => by
    have : w6.heap.size = q := by simpa [Value.ownBlock] using hq
    omega)
  exact ⟨B3, B3.size⟩
set_option maxRecDepth 100000 in
set_option maxHeartbeats 16000000 in
theorem lines_any (x : Int) (a : Option Addr) (n c : Nat) (R : List Int) (s : ByteArray) (wolves : Bool) (z : Int) (w : World) (h : Ints w a R) (hn : R.length = n) (_hnc : n ≤ c) (hnil : a = none → c = 0) (hT : Tab w) :
    Calls Tryd.prog 6 #[.int .i64 x, .slice a n c, .string s, .bool wolves, .int .i64 z] w (Ret (.bool true) w) := by
  have hAl := Lib.hid (fun W hW => alive_any W hW)
  have hFw := Lib.hid (fun W => few_any n c a s strE W)
  replace hT := Lib.hid hT
  cases hf : decide (n ≤ 40) && decide (s.size ≤ 40)
  · have hf2 : (decide (n ≤ 40) && decide (s.size ≤ 40) && decide (strE.size ≤ 40)) = false := by rw [hf]; rfl
    rw [hf2] at hFw
    clear hn
    go_enter Tryd.func6, Tryd.ntmps6
    go_wp2_with (first
      | (go_at_call 10; refine (hFw.out _).mono ?_; rintro e w1 ⟨rfl, rfl⟩)
      | (go_at_call 11; refine (hAl.out _ hT.out).mono ?_; rintro e w1 ⟨rfl, hb1⟩))
    go_ret
    exact Ret.mk rfl hb1
  · have hf2 : (decide (n ≤ 40) && decide (s.size ≤ 40) && decide (strE.size ≤ 40)) = true := by rw [hf]; rfl
    rw [hf2] at hFw
    have PL := Lib.hid (fun W hW => refPlaced_any x a n c R s W hW hn)
    have hI := Lib.hid h
    have hn' := Lib.hid hn
    obtain ⟨e, he⟩ : ∃ e, Hid (pE x R s = e) := ⟨_, Lib.hid rfl⟩
    have he6 : e < 6 := by rw [← he.out]; exact pE_lt x R s
    rw [he.out] at PL
    clear hf hf2 h hn
    by_cases h1 : e = 0
    · subst h1
      obtain ⟨hx, hF, hs, hok⟩ := pE_ok he.out
      obtain ⟨m, hm⟩ : ∃ m, x.toNat = m := ⟨_, rfl⟩
      rw [hm] at hx hF hs
      subst hx
      have hn12 : n ≤ 12 := by have := hF.few; rw [hn'.out] at this; exact this
      have WIN : Hid (∀ (t : ByteArray) (R' : List Int) (b : Bool) (a' : Option Addr) (n' c' : Nat), isSide t = true → FieldP m R' → R'.length = n' → win m R' (psB s 119 m) (psB s 100 m) (sideN t == 1) = b → ∀ W, Ints W a' R' → Tab W → Calls Tryd.prog 12 #[.int .i64 (m : Nat), .slice a' n' c', .string s, .string t] W (Ret (.tuple #[.string (ltr (sd b)), .int .i64 0]) W)) := Lib.hid (fun t R' b a' n' c' h1 h2 h3 h4 W hW hTW => by
        have tn := tE_pos (s := s) (t := t) (pE_pos h2 hs hok) h1
        have := Winner_any (m : Int) a' n' c' R' s t W hW h3 hTW
        rw [winS_pos tn, tn, h4] at this
        exact this)
      have LE := Lib.hid (fun W hW => Least_ok m a n c R W hF hW hn'.out)
      have hK := Lib.hid (fun t : Nat => lq_has (L := R) (N := pw m) (fun y hy => (hF.line y hy).2) t)
      have FM := Lib.hid (fun a' n' c' W hW (h3 : (R ++ [z]).length = n') => refField_any (m : Int) a' n' c' (R ++ [z]) W hW h3)
      have hFK := Lib.hid (least_len hF)
      have hFB := Lib.hid (back_field hF)
      have hBK := Lib.hid (fun k (hk : k < n) => (show R.reverse.take (k + 1) = R.reverse.take k ++ [nth R (n - 1 - k)] by have := back_take (R := R) (k := k) (by rw [hn'.out]; exact hk); rw [hn'.out] at this; exact this))
      have hBL := Lib.hid (show R.reverse.take n = R.reverse by rw [List.take_of_length_le]; rw [List.length_reverse, hn'.out]; exact Nat.le_refl _)
      have hBn := Lib.hid (show R.reverse.length = n by rw [List.length_reverse]; exact hn'.out)
      have hMn := Lib.hid (show (R ++ [z]).length = n + 1 by rw [List.length_append, hn'.out]; rfl)
      have hMI := Lib.hid (show lI R ++ [.int .i64 z] = lI (R ++ [z]) by simp [lI])
      have hMF := Lib.hid (fun (h : fE (m : Int) (R ++ [z]) = 0) => (fE_ok h).2)
      obtain ⟨eM, heM⟩ : ∃ e, Hid (fE (m : Int) (R ++ [z]) = e) := ⟨_, Lib.hid rfl⟩
      rw [heM.out] at FM hMF
      have heM4 : eM < 4 := by rw [← heM.out]; exact fE_lt _ _
      obtain ⟨i0, hi, hz0, hz1, hz2⟩ := info_parts infoInt'
      have G0 := Lib.hid hi
      have G1 := Lib.hid hz0
      have G2 := Lib.hid hz1
      have G3 := Lib.hid hz2
      clear hi hz0 hz1 hz2
      simp only [if_true] at PL
      rw [show (m : Int).toNat = m from rfl] at PL hMF
      obtain ⟨A, hA⟩ : ∃ A : Bool → Bool, Hid (∀ nx, win m R (psB s 119 m) (psB s 100 m) nx = A nx) := ⟨fun nx => win m R (psB s 119 m) (psB s 100 m) nx, Lib.hid fun _ => rfl⟩
      obtain ⟨D, hD⟩ : ∃ D : Bool → Bool, Hid (∀ nx, win m (R ++ [z]) (psB s 119 m) (psB s 100 m) nx = D nx) := ⟨fun nx => win m (R ++ [z]) (psB s 119 m) (psB s 100 m) nx, Lib.hid fun _ => rfl⟩
      have hAK := Lib.hid (fun nx => (win_same (m := m) (L := lNi (lqTo R (pw m))) (L' := R) hK.out (psB s 119 m) (psB s 100 m) nx).trans (hA.out nx))
      have hAB := Lib.hid (fun nx => (win_same (m := m) (L := R.reverse) (L' := R) (back_has R) (psB s 119 m) (psB s 100 m) nx).trans (hA.out nx))
      have hAD := Lib.hid (fun nx (h : A nx = true) => (show D nx = true by rw [← hD.out]; exact win_lines (L := R) (L' := R ++ [z]) (more_has R z) _ _ _ _ rfl (by rw [hA.out]; exact h)))
      replace hF := Lib.hid hF
      replace hok := Lib.hid hok
      replace hs := Lib.hid hs
      generalize psB s 119 m = u0 at *
      generalize psB s 100 m = v0 at *
      generalize hKL : lNi (lqTo R (pw m)) = KL at *
      generalize R.reverse = RB at *
      generalize hMM : R ++ [z] = M at *
      clear hKL hMM hm hK
      replace hnil := Lib.hid hnil
      cases wolves
      · have sT := isSide_D
        have sN := sideN_D
        obtain ⟨qa, hqa⟩ : ∃ q, A true = q := ⟨_, rfl⟩
        obtain ⟨qd, hqd⟩ : ∃ q, D true = q := ⟨_, rfl⟩
        have K1 := WIN.out strD R qa a n c sT hF.out hn'.out (by rw [sN, hA.out, hqa])
        have K2 := fun a' c' => WIN.out strD KL qa a' KL.length c' sT hFK.out rfl (by rw [sN, hAK.out, hqa])
        have K3 := fun a' c' => WIN.out strD RB qa a' n c' sT hFB.out hBn.out (by rw [sN, hAB.out, hqa])
        have K4 := fun (h0 : eM = 0) a' c' => WIN.out strD M qd a' (n + 1) c' sT (hMF.out h0) hMn.out (by rw [sN, hD.out, hqd])
        have hqq : qa = true → qd = true := fun h => by rw [← hqd]; exact hAD.out true (by rw [hqa]; exact h)
        unfold strD at K1 K2 K3 K4
        clear sT sN hqa hqd WIN hA hD hAK hAB hAD
        have la := ltr_list qa
        have ld := ltr_list qd
        generalize ltr (sd qa) = La at *
        generalize ltr (sd qd) = Ld at *
        replace K1 := Lib.hid K1
        replace K2 := Lib.hid K2
        replace K3 := Lib.hid K3
        replace K4 := Lib.hid K4
        have n0 : (0 : Int) ≤ (n : Int) := by omega
        go_enter Tryd.func6, Tryd.ntmps6
        go_wp2_with (first
          | (go_at_call 10; refine (hFw.out _).mono ?_; rintro e w1 ⟨rfl, rfl⟩)
          | (go_at_call 30; refine (PL.out _ hI.out).mono ?_; rintro e w2 ⟨rfl, hb2⟩))
        go_loopw [15, 16] (fun v i wr => ∃ k : Nat, k ≤ n ∧ i = .int .i64 ((n : Int) - 1 - (k : Int)) ∧ wr.ownsRow w.heap.size 3 1 v k (lI (RB.take k)) ∧ Below w.heap.size w wr) (fun _ i _ => (intOf i + 1).toNat)
        case atStart => exact ⟨0, Nat.zero_le _, by simp only [Value.int.injEq, true_and]; omega, World.ownsRow_nil _ _ _ _, hb2⟩
        case round =>
          clear hb2
          obtain ⟨k, hk, rfl, hown, B0⟩ := hrel
          by_cases hlt : k < n
          · have i1 : (0 : Int) ≤ (n : Int) - 1 - (k : Int) := by omega
            have i2 : ((n : Int) - 1 - (k : Int)).toNat = n - 1 - k := by omega
            have i3 : (n : Int) - 1 - (k : Int) < (n : Int) := by omega
            obtain ⟨b, off, rfl, hc⟩ := ints_at (hI.out.next B0) (by rw [hn'.out]; omega)
            have x0 := hc (n - 1 - k) (by rw [hn'.out]; omega)
            have hst := hBK.out k hlt
            replace hst := Lib.hid (show lI (RB.take k) ++ [.int .i64 (nth R (n - 1 - k))] = lI (RB.take (k + 1)) by rw [hst]; simp [lI])
            clear hc
            have hsz := B0.size
            generalize nth R (n - 1 - k) = y at *
            go_wp2_with (at_builtin; refine wpList_append_own _ rfl _ _ 22 rfl w.heap.size 3 i0 (.int .i64 0) 1 8 Tryd.underlying22 G0.out G1.out G2.out G3.out rfl (by decide) _ _ _ rfl (hown.alloc _) ⟨_, 0, none⟩ 1 1 [.int .i64 y] rfl rfl (cell_one_new _ _ _) (by simp [Value.oneCell']) (by unfold maxLen; omega) (by omega) (by simp; omega) ?_; intro v' w4 hown4 hgrow _; rw [hst.out] at hown4)
            have hql := hown.lt
            have B4 := (B0.alloc hsz (.cells #[.int .i64 y] 3)).grown hgrow (by simp; omega) (fun q hq => (hql q hq).1)
            go_roundw
            case rel => exact ⟨k + 1, by omega, by simp only [Value.int.injEq, true_and]; omega, hown4, B4⟩
            case measure => simp [intOf]; omega
          · have hkn : k = n := by omega
            rw [hkn, hBL.out] at hown
            have i1 : ¬ (0 : Int) ≤ (n : Int) - 1 - (k : Int) := by omega
            obtain ⟨aB, cB, rfl, _, hIB⟩ := own_intsA hown hBn.out
            clear hown
            replace hkn := Lib.hid hkn
            go_wp2_with fail
            refine (LE.out _ (hI.out.next B0)).mono ?_
            rintro e w3 ⟨aK, cK, rfl, hIK, hb3⟩
            dsimp only
            have B1 := nextB B0 hb3
            replace hIB := hIB.next hb3
            clear hb3 B0
            go_wp2_with fail
            refine (K1.out _ (hI.out.next B1) (hT.out.next B1)).mono ?_
            rintro e w4 ⟨rfl, hb4⟩
            dsimp only
            replace B1 := nextB B1 hb4
            replace hIB := hIB.next hb4
            replace hIK := hIK.next hb4
            clear hb4
            go_wp2_with fail
            refine (K2.out _ _ _ hIK (hT.out.next B1)).mono ?_
            rintro e w5 ⟨rfl, hb5⟩
            dsimp only
            replace B1 := nextB B1 hb5
            replace hIB := hIB.next hb5
            clear hb5 hIK
            go_wp2_with fail
            refine (K3.out _ _ _ hIB (hT.out.next B1)).mono ?_
            rintro e w6 ⟨rfl, hb6⟩
            dsimp only
            replace B1 := nextB B1 hb6
            clear hb6 hIB
            have hs6 := B1.size
            have B2 := B1.alloc hs6 (.cells #[] 3)
            have hown0 : (w6.alloc (.cells #[] 3)).ownsRow w.heap.size 3 1 (.slice (some ⟨w6.heap.size, 0, none⟩) 0 0) 0 [] := World.ownsRow_made w6 #[] 0 hs6 (by decide) rfl
            go_wp2_with (first
              | (at_builtin; refine wpList_copyI rfl _ _ rfl w.heap.size _ rfl hown0 a n c R rfl (hI.out.next B2) hn'.out hnil.out (by omega) B2.size ?_; intro v7 w7 ho7 hg7; obtain ⟨B3, hs7⟩ := after_copy B2 hs6 hg7)
              | (at_builtin; refine wpList_append_own _ rfl _ _ 22 rfl w.heap.size 3 i0 (.int .i64 0) 1 8 Tryd.underlying22 G0.out G1.out G2.out G3.out rfl (by decide) _ _ _ rfl (ho7.alloc _) ⟨_, 0, none⟩ 1 1 [.int .i64 z] rfl rfl (cell_one_new _ _ _) (by simp [Value.oneCell']) (by unfold maxLen; omega) (by omega) (by simp; omega) ?_; intro v8 w8 ho8 hg8 _; rw [hMI.out] at ho8; have hql := ho7.lt; have B4 := (B3.alloc hs7 (.cells #[.int .i64 z] 3)).grown hg8 (by simp; omega) (fun q hq => (hql q hq).1); obtain ⟨a8, c8, rfl, _, hI8⟩ := own_intsA ho8 hMn.out))
            refine (FM.out _ _ _ _ hI8 hMn.out).mono ?_
            rintro e w9 ⟨rfl, hb9⟩
            dsimp only
            have B5 := nextB B4 hb9
            replace hI8 := hI8.next hb9
            clear hb9 B4 ho8 ho7 hql
            by_cases hM0 : eM = 0
            · subst hM0
              have K5 := Lib.hid (K4.out rfl a8 c8)
              clear K1 K2 K3 K4
              go_wp2_with fail
              refine (K5.out _ hI8 (hT.out.next B5)).mono ?_
              rintro e w10 ⟨rfl, hb10⟩
              dsimp only
              have B6 := nextB B5 hb10
              clear hb10 B5 hI8 K5
              cases qa <;> cases qd
              all_goals first
                | (exfalso; revert hqq; simp; done)
                | skip
              all_goals
                clear hqq
                simp only [Bool.false_eq_true, if_false, if_true] at la ld
                go_wp2_with (go_at_call 11; refine (hAl.out _ (hT.out.next B6)).mono ?_; rintro e w1 ⟨rfl, hb1⟩)
                go_ret
                exact Ret.mk rfl (nextB B6 hb1)
            · have d1 : ((eM : Int) != 0) = true := by rw [bne_iff_ne]; omega
              clear K1 K2 K3 K4
              go_wp2_with (go_at_call 11; refine (hAl.out _ (hT.out.next B5)).mono ?_; rintro e w1 ⟨rfl, hb1⟩)
              go_ret
              exact Ret.mk rfl (nextB B5 hb1)
      · have sT := isSide_W
        have sN := sideN_W
        obtain ⟨qa, hqa⟩ : ∃ q, A false = q := ⟨_, rfl⟩
        obtain ⟨qd, hqd⟩ : ∃ q, D false = q := ⟨_, rfl⟩
        have K1 := WIN.out strW R qa a n c sT hF.out hn'.out (by rw [sN, hA.out, hqa])
        have K2 := fun a' c' => WIN.out strW KL qa a' KL.length c' sT hFK.out rfl (by rw [sN, hAK.out, hqa])
        have K3 := fun a' c' => WIN.out strW RB qa a' n c' sT hFB.out hBn.out (by rw [sN, hAB.out, hqa])
        have K4 := fun (h0 : eM = 0) a' c' => WIN.out strW M qd a' (n + 1) c' sT (hMF.out h0) hMn.out (by rw [sN, hD.out, hqd])
        have hqq : qa = true → qd = true := fun h => by rw [← hqd]; exact hAD.out false (by rw [hqa]; exact h)
        unfold strW at K1 K2 K3 K4
        clear sT sN hqa hqd WIN hA hD hAK hAB hAD
        have la := ltr_list qa
        have ld := ltr_list qd
        generalize ltr (sd qa) = La at *
        generalize ltr (sd qd) = Ld at *
        replace K1 := Lib.hid K1
        replace K2 := Lib.hid K2
        replace K3 := Lib.hid K3
        replace K4 := Lib.hid K4
        have n0 : (0 : Int) ≤ (n : Int) := by omega
        go_enter Tryd.func6, Tryd.ntmps6
        go_wp2_with (first
          | (go_at_call 10; refine (hFw.out _).mono ?_; rintro e w1 ⟨rfl, rfl⟩)
          | (go_at_call 30; refine (PL.out _ hI.out).mono ?_; rintro e w2 ⟨rfl, hb2⟩))
        go_loopw [15, 16] (fun v i wr => ∃ k : Nat, k ≤ n ∧ i = .int .i64 ((n : Int) - 1 - (k : Int)) ∧ wr.ownsRow w.heap.size 3 1 v k (lI (RB.take k)) ∧ Below w.heap.size w wr) (fun _ i _ => (intOf i + 1).toNat)
        case atStart => exact ⟨0, Nat.zero_le _, by simp only [Value.int.injEq, true_and]; omega, World.ownsRow_nil _ _ _ _, hb2⟩
        case round =>
          clear hb2
          obtain ⟨k, hk, rfl, hown, B0⟩ := hrel
          by_cases hlt : k < n
          · have i1 : (0 : Int) ≤ (n : Int) - 1 - (k : Int) := by omega
            have i2 : ((n : Int) - 1 - (k : Int)).toNat = n - 1 - k := by omega
            have i3 : (n : Int) - 1 - (k : Int) < (n : Int) := by omega
            obtain ⟨b, off, rfl, hc⟩ := ints_at (hI.out.next B0) (by rw [hn'.out]; omega)
            have x0 := hc (n - 1 - k) (by rw [hn'.out]; omega)
            have hst := hBK.out k hlt
            replace hst := Lib.hid (show lI (RB.take k) ++ [.int .i64 (nth R (n - 1 - k))] = lI (RB.take (k + 1)) by rw [hst]; simp [lI])
            clear hc
            have hsz := B0.size
            generalize nth R (n - 1 - k) = y at *
            go_wp2_with (at_builtin; refine wpList_append_own _ rfl _ _ 22 rfl w.heap.size 3 i0 (.int .i64 0) 1 8 Tryd.underlying22 G0.out G1.out G2.out G3.out rfl (by decide) _ _ _ rfl (hown.alloc _) ⟨_, 0, none⟩ 1 1 [.int .i64 y] rfl rfl (cell_one_new _ _ _) (by simp [Value.oneCell']) (by unfold maxLen; omega) (by omega) (by simp; omega) ?_; intro v' w4 hown4 hgrow _; rw [hst.out] at hown4)
            have hql := hown.lt
            have B4 := (B0.alloc hsz (.cells #[.int .i64 y] 3)).grown hgrow (by simp; omega) (fun q hq => (hql q hq).1)
            go_roundw
            case rel => exact ⟨k + 1, by omega, by simp only [Value.int.injEq, true_and]; omega, hown4, B4⟩
            case measure => simp [intOf]; omega
          · have hkn : k = n := by omega
            rw [hkn, hBL.out] at hown
            have i1 : ¬ (0 : Int) ≤ (n : Int) - 1 - (k : Int) := by omega
            obtain ⟨aB, cB, rfl, _, hIB⟩ := own_intsA hown hBn.out
            clear hown
            replace hkn := Lib.hid hkn
            go_wp2_with fail
            refine (LE.out _ (hI.out.next B0)).mono ?_
            rintro e w3 ⟨aK, cK, rfl, hIK, hb3⟩
            dsimp only
            have B1 := nextB B0 hb3
            replace hIB := hIB.next hb3
            clear hb3 B0
            go_wp2_with fail
            refine (K1.out _ (hI.out.next B1) (hT.out.next B1)).mono ?_
            rintro e w4 ⟨rfl, hb4⟩
            dsimp only
            replace B1 := nextB B1 hb4
            replace hIB := hIB.next hb4
            replace hIK := hIK.next hb4
            clear hb4
            go_wp2_with fail
            refine (K2.out _ _ _ hIK (hT.out.next B1)).mono ?_
            rintro e w5 ⟨rfl, hb5⟩
            dsimp only
            replace B1 := nextB B1 hb5
            replace hIB := hIB.next hb5
            clear hb5 hIK
            go_wp2_with fail
            refine (K3.out _ _ _ hIB (hT.out.next B1)).mono ?_
            rintro e w6 ⟨rfl, hb6⟩
            dsimp only
            replace B1 := nextB B1 hb6
            clear hb6 hIB
            have hs6 := B1.size
            have B2 := B1.alloc hs6 (.cells #[] 3)
            have hown0 : (w6.alloc (.cells #[] 3)).ownsRow w.heap.size 3 1 (.slice (some ⟨w6.heap.size, 0, none⟩) 0 0) 0 [] := World.ownsRow_made w6 #[] 0 hs6 (by decide) rfl
            go_wp2_with (first
              | (at_builtin; refine wpList_copyI rfl _ _ rfl w.heap.size _ rfl hown0 a n c R rfl (hI.out.next B2) hn'.out hnil.out (by omega) B2.size ?_; intro v7 w7 ho7 hg7; obtain ⟨B3, hs7⟩ := after_copy B2 hs6 hg7)
              | (at_builtin; refine wpList_append_own _ rfl _ _ 22 rfl w.heap.size 3 i0 (.int .i64 0) 1 8 Tryd.underlying22 G0.out G1.out G2.out G3.out rfl (by decide) _ _ _ rfl (ho7.alloc _) ⟨_, 0, none⟩ 1 1 [.int .i64 z] rfl rfl (cell_one_new _ _ _) (by simp [Value.oneCell']) (by unfold maxLen; omega) (by omega) (by simp; omega) ?_; intro v8 w8 ho8 hg8 _; rw [hMI.out] at ho8; have hql := ho7.lt; have B4 := (B3.alloc hs7 (.cells #[.int .i64 z] 3)).grown hg8 (by simp; omega) (fun q hq => (hql q hq).1); obtain ⟨a8, c8, rfl, _, hI8⟩ := own_intsA ho8 hMn.out))
            refine (FM.out _ _ _ _ hI8 hMn.out).mono ?_
            rintro e w9 ⟨rfl, hb9⟩
            dsimp only
            have B5 := nextB B4 hb9
            replace hI8 := hI8.next hb9
            clear hb9 B4 ho8 ho7 hql
            by_cases hM0 : eM = 0
            · subst hM0
              have K5 := Lib.hid (K4.out rfl a8 c8)
              clear K1 K2 K3 K4
              go_wp2_with fail
              refine (K5.out _ hI8 (hT.out.next B5)).mono ?_
              rintro e w10 ⟨rfl, hb10⟩
              dsimp only
              have B6 := nextB B5 hb10
              clear hb10 B5 hI8 K5
              cases qa <;> cases qd
              all_goals first
                | (exfalso; revert hqq; simp; done)
                | skip
              all_goals
                clear hqq
                simp only [Bool.false_eq_true, if_false, if_true] at la ld
                go_wp2_with (go_at_call 11; refine (hAl.out _ (hT.out.next B6)).mono ?_; rintro e w1 ⟨rfl, hb1⟩)
                go_ret
                exact Ret.mk rfl (nextB B6 hb1)
            · have d1 : ((eM : Int) != 0) = true := by rw [bne_iff_ne]; omega
              clear K1 K2 K3 K4
              go_wp2_with (go_at_call 11; refine (hAl.out _ (hT.out.next B5)).mono ?_; rintro e w1 ⟨rfl, hb1⟩)
              go_ret
              exact Ret.mk rfl (nextB B5 hb1)
    · have d1 : ((e : Int) != 0) = true := by rw [bne_iff_ne]; omega
      go_enter Tryd.func6, Tryd.ntmps6
      go_wp2_with (first
        | (go_at_call 10; refine (hFw.out _).mono ?_; rintro e w1 ⟨rfl, rfl⟩)
        | (go_at_call 30; refine (PL.out _ hI.out).mono ?_; rintro e w2 ⟨rfl, hb2⟩)
        | (go_at_call 11; refine (hAl.out _ (hT.out.next hb2)).mono ?_; rintro e w1 ⟨rfl, hb1⟩))
      go_ret
      exact Ret.mk rfl (nextB hb2 hb1)
end Go.Proofs.YtbdhceolchhnjaaDoor
