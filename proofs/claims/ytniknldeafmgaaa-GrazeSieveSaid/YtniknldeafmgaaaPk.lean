/- Layer 8, the law of the sieve. -/
import Derived.Test.YtniknldeafmgaaaOa
import Derived.Test.YtniknldeafmgaaaPd
namespace Go.Proofs.Ytniknldeafmgaaa
set_option linter.unusedSimpArgs false
set_option linter.unusedVariables false
open Go Go.RowKit

theorem slD (l : List UInt8) (d : Nat) (hd : d ≤ l.length) (hl : l.length ≤ 1000) (W : World) : (Instr.sliceAt 9 (.string (bytesOf l)) (some (.int .i64 (d : Int))) none none).run Try.prog W = .ok (.string (bytesOf (l.drop d))) W := by
  have hs : (⟨l.toArray⟩ : ByteArray).size = l.length := by show l.toArray.size = _; simp
  have h : (⟨l.toArray⟩ : ByteArray).extract d l.length = ⟨(l.drop d).toArray⟩ := by
    rw [Lib.extract_eq]
    simp
    exact List.take_of_length_le (by simp)
  unfold bytesOf Instr.sliceAt Instr.slice Instr.sliceBounds Instr.sliceBound
  simp [asIntOf, run_underlying Try.underlying9, hs, h]
  try omega
theorem slT (l : List UInt8) (d : Nat) (hd : d ≤ l.length) (hl : l.length ≤ 1000) (W : World) : (Instr.sliceAt 9 (.string (bytesOf l)) none (some (.int .i64 (d : Int))) none).run Try.prog W = .ok (.string (bytesOf (l.take d))) W := by
  have hs : (⟨l.toArray⟩ : ByteArray).size = l.length := by show l.toArray.size = _; simp
  have h : (⟨l.toArray⟩ : ByteArray).extract 0 d = ⟨(l.take d).toArray⟩ := by
    rw [Lib.extract_eq]
    simp
  unfold bytesOf Instr.sliceAt Instr.slice Instr.sliceBounds Instr.sliceBound
  simp [asIntOf, run_underlying Try.underlying9, hs, h]
  try omega
theorem bytesOf_toList (l : List UInt8) : (bytesOf l).toList = l := by rw [ByteArray.toList_eq]; simp [bytesOf]
theorem eqB (x y : List UInt8) (W : World) : (binOp .eql 9 (.string (bytesOf x)) (.string (bytesOf y))).run Try.prog W = .ok (.bool (x == y)) W := by
  go_simp
  rw [bytesOf_toList, bytesOf_toList]
theorem gcd_neg {n y : Nat} (h : y ≤ n) : Nat.gcd n (n - y) = Nat.gcd n y := by
  apply Nat.dvd_antisymm
  · refine Nat.dvd_gcd (Nat.gcd_dvd_left _ _) ?_
    obtain ⟨p, hp⟩ := Nat.gcd_dvd_left n (n - y)
    obtain ⟨q, hq⟩ := Nat.gcd_dvd_right n (n - y)
    generalize Nat.gcd n (n - y) = G at *
    exact ⟨p - q, by rw [Nat.mul_sub]; omega⟩
  · refine Nat.dvd_gcd (Nat.gcd_dvd_left _ _) ?_
    obtain ⟨p, hp⟩ := Nat.gcd_dvd_left n y
    obtain ⟨q, hq⟩ := Nat.gcd_dvd_right n y
    generalize Nat.gcd n y = G at *
    exact ⟨p - q, by rw [Nat.mul_sub]; omega⟩
theorem gcd_int {n : Nat} {x : Int} (h1 : -(n : Int) ≤ x) (h2 : x ≤ (n : Int)) : Int.gcd (n : Int) x = Nat.gcd n (if x < 0 then (x + n).toNat else x.toNat) := by
  unfold Int.gcd
  rw [Int.natAbs_natCast]
  split
  · rw [show (x + n).toNat = n - x.natAbs by omega, gcd_neg (by omega)]
  · rw [show x.toNat = x.natAbs by omega]
set_option maxRecDepth 100000 in
set_option maxHeartbeats 4000000 in
theorem sieve_law (r c : Nat) (days : Int) (w : World) (hr : r ≤ 255) (hc : c ≤ 255) :
    Calls Try.prog 13 #[.int .u8 (r : Int), .int .u8 (c : Int), .int .i64 days] w (Ret (.bool true) w) := by
  obtain ⟨a, ha⟩ : ∃ a, Hid (1 + r % 6 = a) := ⟨_, Lib.hid rfl⟩
  obtain ⟨b, hb⟩ : ∃ b, Hid (1 + c % 6 = b) := ⟨_, Lib.hid rfl⟩
  have ha6 : 1 ≤ a ∧ a ≤ 6 := by have := ha.out; omega
  have hb6 : 1 ≤ b ∧ b ≤ 6 := by have := hb.out; omega
  have e1 : (r : Int).tmod 6 = (a : Int) - 1 := by rw [Int.tmod_eq_emod_of_nonneg (by omega)]; have := ha.out; omega
  have e2 : (c : Int).tmod 6 = (b : Int) - 1 := by rw [Int.tmod_eq_emod_of_nonneg (by omega)]; have := hb.out; omega
  have hN := Lib.hid (fun w => Same_yes a b days w ha6 hb6)
  obtain ⟨h1, h2, h3, h4⟩ := tmod_emod days (a + b) (by omega)
  have e : ((a + b : Nat) : Int) = (a : Int) + (b : Int) := by omega
  have hd := dmod_cast (b := b) ha6.1 days
  have hlt := dmod_lt (b := b) ha6.1 days
  have hgx := gcd_int (n := a + b) (x := days.tmod ((a + b : Nat) : Int)) (by omega) (by omega)
  have hsv := sieve (d := dmod a b days) ha6 hb6
  have hws := Lib.hid (fun (h : a + b ≤ 8) => words_same ha6 hb6 h hlt)
  rw [e] at h1 h2 h3 h4 hd hgx
  generalize hx : days.tmod ((a : Int) + (b : Int)) = x at *
  have hgd : Int.gcd ((a : Int) + (b : Int)) x = Nat.gcd (a + b) (dmod a b days) := by
    rw [hgx]
    congr 1
    split
    · rename_i q; have := h4 q; omega
    · rename_i q; have := h3 (by omega); omega
  generalize dmod a b days = D at *
  have hG := Lib.hid (fun w => by have := gcd_any ((a : Int) + (b : Int)) x w (by omega) (by omega); rw [hgd] at this; exact this)
  have hSt := Lib.hid (fun w => states_any a b w ha6 hb6.2)
  have hlen : (brs a b).length ≤ 262144 := brs_lt (by omega) (by omega)
  have hpos : 0 < (brs a b).length := by rw [← stT_all]; exact stT_pos a b a _
  have hWd := Lib.hid (fun f (h : f ∈ brs a b) ad c w hI => Word_yes a b f ad c w (brs_S ha6 hb6 h) hI)
  have hWl := Lib.hid (fun f (h : f ∈ brs a b) => (word_W (brs_S ha6 hb6 h)).len)
  have hcs := Lib.hid (fun m (h : m < (brs a b).length) => count_succ (wsB a b D) h)
  have hmem := Lib.hid (fun k (h : k < (brs a b).length) => fAt_mem h)
  obtain ⟨cn, hcn⟩ : ∃ cn : Nat → Nat, Hid (∀ m, ((brs a b).take m).countP (wsB a b D) = cn m) := ⟨_, Lib.hid fun _ => rfl⟩
  have hle : Hid (∀ m, cn m ≤ m) := Lib.hid (fun m => by rw [← hcn.out]; exact Nat.le_trans List.countP_le_length (by rw [List.length_take]; omega))
  replace hcs : Hid (∀ m, m < (brs a b).length → cn (m + 1) = cn m + if wsB a b D (fAt (brs a b) m) then 1 else 0) := Lib.hid (fun m h => by rw [← hcn.out, ← hcn.out]; exact hcs.out m h)
  have hc0 : Hid (cn 0 = 0) := Lib.hid (by rw [← hcn.out]; rfl)
  have hfin : Hid (a + b ≤ 8 → cn (brs a b).length = sameN a b D) := Lib.hid (fun h => by rw [← hws.out h, ← hcn.out, List.take_length])
  have hgpos : 0 < Nat.gcd (a + b) D := Nat.gcd_pos_of_pos_left _ (by omega)
  have hgle : Nat.gcd (a + b) D ≤ a + b := Nat.le_of_dvd (by omega) (Nat.gcd_dvd_left _ _)
  unfold wantN at hsv
  generalize Nat.gcd (a + b) D = g at *
  have hMg : a * g ≤ g * (a + b) := by rw [Nat.mul_comm g]; exact Nat.mul_le_mul_right g (by omega)
  have hM72 : a * g ≤ 72 := Nat.mul_le_mul ha6.2 (show g ≤ 12 by omega)
  have hKg : a * g / (a + b) ≤ g := Nat.div_le_of_le_mul (by rw [Nat.mul_comm (a + b)]; exact hMg)
  have hag : (a : Int) * (g : Int) = ((a * g : Nat) : Int) := by rw [Int.natCast_mul]
  have e5 : ((a * g : Nat) : Int).tmod ((a : Int) + (b : Int)) = ((a * g % (a + b) : Nat) : Int) := by rw [← e, Int.ofNat_tmod]
  have e6 : ((a * g : Nat) : Int).tdiv ((a : Int) + (b : Int)) = ((a * g / (a + b) : Nat) : Int) := by rw [← e, Int.ofNat_tdiv]
  have hq5 : a * g % (a + b) < a + b := Nat.mod_lt _ (by omega)
  have hC := Lib.hid (fun w => choose_any g (a * g / (a + b)) w (by omega) hKg)
  have hCb := chN_le (n := g) (i := a * g / (a + b)) (by omega) hKg
  generalize a * g / (a + b) = K at *
  generalize a * g % (a + b) = q5 at *
  generalize a * g = M at *
  have e7 : 1 + ((a : Int) - 1) = (a : Int) := by omega
  have e8 : 1 + ((b : Int) - 1) = (b : Int) := by omega
  have hz : ¬ ((a : Int) + (b : Int) = 0) := by omega
  obtain ⟨ha1, ha6⟩ := ha6
  obtain ⟨hb1, hb6⟩ := hb6
  have ed : x + ((a : Int) + (b : Int)) = (D : Int) ∨ x = (D : Int) := by
    by_cases q : x < 0
    · left; have := h4 q; omega
    · right; have := h3 (by omega); omega
  replace ed := Lib.hid ed
  replace hgx := Lib.hid hgx
  replace hgd := Lib.hid hgd
  replace hd := Lib.hid hd
  clear h3 h4 hws hcn e
  generalize sameN a b D = N at *
  generalize chN g K = C at *
  clear hgx hgd hMg
  obtain ⟨n, hn⟩ : ∃ n, Hid ((brs a b).length = n) := ⟨_, Lib.hid rfl⟩
  rw [hn.out] at hlen hpos hcs hfin hmem
  generalize brs a b = L at *
  by_cases h5 : q5 = 0
  · subst h5
    rw [if_pos rfl] at hsv
    subst hsv
    go_enter Try.func13, Try.ntmps13
    go_upto_region 9 with (first
      | (go_at_call 38; (with_reducible refine (hN.out _).mono ?_); rintro _ w1 ⟨rfl, hw1⟩)
      | (go_at_call 43; (with_reducible refine (hG.out _).mono ?_); rintro _ _ ⟨rfl, rfl⟩)
      | (go_at_call 44; (with_reducible refine (hC.out _).mono ?_); rintro _ _ ⟨rfl, rfl⟩))
    by_cases h8 : 8 < a + b
    · have h8' : (8 : Int) < (a : Int) + (b : Int) := by omega
      go_wp2_with (go_at_call 15; refine (alive_any _).mono ?_; rintro _ w9 ⟨rfl, hw9⟩)
      go_ret
      exact ⟨rfl, nextB hw1 hw9⟩
    · have h8' : (a : Int) + (b : Int) ≤ 8 := by omega
      by_cases hx0 : x < 0
      · have eD : x + ((a : Int) + (b : Int)) = (D : Int) := by have := ed.out; omega
        have hfin2 := Lib.hid (hfin.out (by omega))
        go_upto_region 16 with (go_at_call 45; (with_reducible refine (hSt.out _).mono ?_); rintro _ w2 ⟨v, G, rfl, hGl, hown, hTC, hw2⟩)
        rw [hn.out] at hGl hown
        obtain ⟨Bt, cL, e⟩ := own_pos hown hpos
        subst e
        have hY := Lib.hid (rowsI_of hGl.symm hn.out hown hTC)
        have B0 := Lib.hid (nextB hw1 hw2)
        clear hGl hown hTC hw2 hSt hw1
        go_wp2
        go_loopw [14, 16] (fun p i wr => ∃ k : Nat, k ≤ n ∧ p = .int .i64 ((cn k : Nat) : Int) ∧ i = .int .i64 (k : Int) ∧ RowsI wr Bt a L ∧ Below w.heap.size w wr) (fun _ i _ => n - (intOf i).toNat)
        case atStart => exact ⟨0, Nat.zero_le _, by rw [hc0.out]; rfl, rfl, hY.out, B0.out⟩
        case round =>
          clear hY B0
          obtain ⟨k, hk, rfl, rfl, hY, B0⟩ := hrel
          replace hY := Lib.hid hY
          replace B0 := Lib.hid B0
          by_cases hlt2 : k < n
          · have hlt' : (k : Int) < (n : Int) := by omega
            have hk0 : (0 : Int) ≤ (k : Int) := by omega
            have hm := hmem.out k hlt2
            obtain ⟨ar, cr, la, hxi⟩ := hY.out k (by rw [hn.out]; exact hlt2)
            have hck := hle.out k
            have hcs1 := hcs.out k hlt2
            unfold wsB rotN at hcs1
            have hWf := Lib.hid (hWd.out _ hm)
            have hWlf := hWl.out _ hm
            replace hxi := Lib.hid hxi
            generalize fAt L k = f at *
            replace hm := Lib.hid hm
            generalize wordF a b f = l at *
            have hsz : (bytesOf l).size = a + b := by rw [bytesOf_size]; exact hWlf
            have hcmp : ((((bytesOf l).size : Nat) : Int) != (a : Int) + (b : Int)) = false := by rw [hsz, bne_eq_false_iff_eq]; omega
            have q1 := slD l D (by omega) (by omega)
            have q2 := slT l D (by omega) (by omega)
            have q3 : bytesOf (l.drop D) ++ bytesOf (l.take D) = bytesOf (l.drop D ++ l.take D) := by apply ByteArray.ext; simp [bytesOf]
            have q5 : (bytesOf (l.drop D)).size + (bytesOf (l.take D)).size ≤ 9223372036854775807 := by rw [bytesOf_size, bytesOf_size, List.length_drop, List.length_take]; omega
            have q4 := eqB (l.drop D ++ l.take D) l
            generalize hq : (l.drop D ++ l.take D == l) = q at *
            have q6 : ((bytesOf (l.drop D ++ l.take D)).toList == (bytesOf l).toList) = q := by rw [bytesOf_toList, bytesOf_toList]; exact hq
            replace hcs1 := Lib.hid hcs1
            replace hWlf := Lib.hid hWlf
            replace hsz := Lib.hid hsz
            go_upto_region 22 with (go_at_call 34; (with_reducible refine (hWf.out _ _ _ hxi.out).mono ?_); rintro _ w5 ⟨rfl, hw5⟩)
            have mY := Lib.hid (hY.out.next hw5)
            have mB := Lib.hid (nextB B0.out hw5)
            clear hw5 la hcmp
            refine wp_region_ext (by kernel_rfl) (by kernel_rfl) ?_
            repeat (go_big_quiet_step (fail))
            refine wpQuiet_nil ?_
            rintro ⟨w6, hw6⟩
            dsimp only
            replace mY := Lib.hid (mY.out.next hw6)
            replace mB := Lib.hid (nextB mB.out hw6)
            clear q1 q2 q3 q4 q5 hw6
            replace hq := Lib.hid hq
            cases q
            · have e : Hid (cn (k + 1) = cn k) := Lib.hid (by have := hcs1.out; simpa using this)
              go_wp2
              go_roundw
              case rel => exact ⟨k + 1, by omega, by rw [e.out], by go_num, mY.out, mB.out⟩
              case measure => simp [intOf]; omega
            · have e : Hid (cn (k + 1) = cn k + 1) := Lib.hid (by have := hcs1.out; simpa using this)
              go_wp2
              go_roundw
              case rel => exact ⟨k + 1, by omega, by rw [e.out]; go_num, by go_num, mY.out, mB.out⟩
              case measure => simp [intOf]; omega
          · have hlt' : (n : Int) ≤ (k : Int) := by omega
            obtain rfl : k = n := by omega
            rw [hfin2.out]
            go_wp2_with (go_at_call 15; refine (alive_any _).mono ?_; rintro _ w9 ⟨rfl, hw9⟩)
            go_ret
            exact ⟨rfl, nextB B0.out hw9⟩

      · obtain rfl : x = (D : Int) := by have := ed.out; omega
        have hfin2 := Lib.hid (hfin.out (by omega))
        go_upto_region 16 with (go_at_call 45; (with_reducible refine (hSt.out _).mono ?_); rintro _ w2 ⟨v, G, rfl, hGl, hown, hTC, hw2⟩)
        rw [hn.out] at hGl hown
        obtain ⟨Bt, cL, e⟩ := own_pos hown hpos
        subst e
        have hY := Lib.hid (rowsI_of hGl.symm hn.out hown hTC)
        have B0 := Lib.hid (nextB hw1 hw2)
        clear hGl hown hTC hw2 hSt hw1
        go_wp2
        go_loopw [14, 16] (fun p i wr => ∃ k : Nat, k ≤ n ∧ p = .int .i64 ((cn k : Nat) : Int) ∧ i = .int .i64 (k : Int) ∧ RowsI wr Bt a L ∧ Below w.heap.size w wr) (fun _ i _ => n - (intOf i).toNat)
        case atStart => exact ⟨0, Nat.zero_le _, by rw [hc0.out]; rfl, rfl, hY.out, B0.out⟩
        case round =>
          clear hY B0
          obtain ⟨k, hk, rfl, rfl, hY, B0⟩ := hrel
          replace hY := Lib.hid hY
          replace B0 := Lib.hid B0
          by_cases hlt2 : k < n
          · have hlt' : (k : Int) < (n : Int) := by omega
            have hk0 : (0 : Int) ≤ (k : Int) := by omega
            have hm := hmem.out k hlt2
            obtain ⟨ar, cr, la, hxi⟩ := hY.out k (by rw [hn.out]; exact hlt2)
            have hck := hle.out k
            have hcs1 := hcs.out k hlt2
            unfold wsB rotN at hcs1
            have hWf := Lib.hid (hWd.out _ hm)
            have hWlf := hWl.out _ hm
            replace hxi := Lib.hid hxi
            generalize fAt L k = f at *
            replace hm := Lib.hid hm
            generalize wordF a b f = l at *
            have hsz : (bytesOf l).size = a + b := by rw [bytesOf_size]; exact hWlf
            have hcmp : ((((bytesOf l).size : Nat) : Int) != (a : Int) + (b : Int)) = false := by rw [hsz, bne_eq_false_iff_eq]; omega
            have q1 := slD l D (by omega) (by omega)
            have q2 := slT l D (by omega) (by omega)
            have q3 : bytesOf (l.drop D) ++ bytesOf (l.take D) = bytesOf (l.drop D ++ l.take D) := by apply ByteArray.ext; simp [bytesOf]
            have q5 : (bytesOf (l.drop D)).size + (bytesOf (l.take D)).size ≤ 9223372036854775807 := by rw [bytesOf_size, bytesOf_size, List.length_drop, List.length_take]; omega
            have q4 := eqB (l.drop D ++ l.take D) l
            generalize hq : (l.drop D ++ l.take D == l) = q at *
            have q6 : ((bytesOf (l.drop D ++ l.take D)).toList == (bytesOf l).toList) = q := by rw [bytesOf_toList, bytesOf_toList]; exact hq
            replace hcs1 := Lib.hid hcs1
            replace hWlf := Lib.hid hWlf
            replace hsz := Lib.hid hsz
            go_upto_region 22 with (go_at_call 34; (with_reducible refine (hWf.out _ _ _ hxi.out).mono ?_); rintro _ w5 ⟨rfl, hw5⟩)
            have mY := Lib.hid (hY.out.next hw5)
            have mB := Lib.hid (nextB B0.out hw5)
            clear hw5 la hcmp
            refine wp_region_ext (by kernel_rfl) (by kernel_rfl) ?_
            repeat (go_big_quiet_step (fail))
            refine wpQuiet_nil ?_
            rintro ⟨w6, hw6⟩
            dsimp only
            replace mY := Lib.hid (mY.out.next hw6)
            replace mB := Lib.hid (nextB mB.out hw6)
            clear q1 q2 q3 q4 q5 hw6
            replace hq := Lib.hid hq
            cases q
            · have e : Hid (cn (k + 1) = cn k) := Lib.hid (by have := hcs1.out; simpa using this)
              go_wp2
              go_roundw
              case rel => exact ⟨k + 1, by omega, by rw [e.out], by go_num, mY.out, mB.out⟩
              case measure => simp [intOf]; omega
            · have e : Hid (cn (k + 1) = cn k + 1) := Lib.hid (by have := hcs1.out; simpa using this)
              go_wp2
              go_roundw
              case rel => exact ⟨k + 1, by omega, by rw [e.out]; go_num, by go_num, mY.out, mB.out⟩
              case measure => simp [intOf]; omega
          · have hlt' : (n : Int) ≤ (k : Int) := by omega
            obtain rfl : k = n := by omega
            rw [hfin2.out]
            go_wp2_with (go_at_call 15; refine (alive_any _).mono ?_; rintro _ w9 ⟨rfl, hw9⟩)
            go_ret
            exact ⟨rfl, nextB B0.out hw9⟩

  · rw [if_neg h5] at hsv
    subst hsv
    have d5 : ((q5 : Int) == 0) = false := by rw [beq_eq_false_iff_ne]; omega
    have d6 : ¬ ((q5 : Int) = 0) := by omega
    replace h5 := Lib.hid h5
    go_enter Try.func13, Try.ntmps13
    go_upto_region 9 with (first
      | (go_at_call 38; (with_reducible refine (hN.out _).mono ?_); rintro _ w1 ⟨rfl, hw1⟩)
      | (go_at_call 43; (with_reducible refine (hG.out _).mono ?_); rintro _ _ ⟨rfl, rfl⟩)
      | (go_at_call 44; (with_reducible refine (hC.out _).mono ?_); rintro _ _ ⟨rfl, rfl⟩))
    by_cases h8 : 8 < a + b
    · have h8' : (8 : Int) < (a : Int) + (b : Int) := by omega
      go_wp2_with (go_at_call 15; refine (alive_any _).mono ?_; rintro _ w9 ⟨rfl, hw9⟩)
      go_ret
      exact ⟨rfl, nextB hw1 hw9⟩
    · have h8' : (a : Int) + (b : Int) ≤ 8 := by omega
      by_cases hx0 : x < 0
      · have eD : x + ((a : Int) + (b : Int)) = (D : Int) := by have := ed.out; omega
        have hfin2 := Lib.hid (hfin.out (by omega))
        go_upto_region 16 with (go_at_call 45; (with_reducible refine (hSt.out _).mono ?_); rintro _ w2 ⟨v, G, rfl, hGl, hown, hTC, hw2⟩)
        rw [hn.out] at hGl hown
        obtain ⟨Bt, cL, e⟩ := own_pos hown hpos
        subst e
        have hY := Lib.hid (rowsI_of hGl.symm hn.out hown hTC)
        have B0 := Lib.hid (nextB hw1 hw2)
        clear hGl hown hTC hw2 hSt hw1
        go_wp2
        go_loopw [14, 16] (fun p i wr => ∃ k : Nat, k ≤ n ∧ p = .int .i64 ((cn k : Nat) : Int) ∧ i = .int .i64 (k : Int) ∧ RowsI wr Bt a L ∧ Below w.heap.size w wr) (fun _ i _ => n - (intOf i).toNat)
        case atStart => exact ⟨0, Nat.zero_le _, by rw [hc0.out]; rfl, rfl, hY.out, B0.out⟩
        case round =>
          clear hY B0
          obtain ⟨k, hk, rfl, rfl, hY, B0⟩ := hrel
          replace hY := Lib.hid hY
          replace B0 := Lib.hid B0
          by_cases hlt2 : k < n
          · have hlt' : (k : Int) < (n : Int) := by omega
            have hk0 : (0 : Int) ≤ (k : Int) := by omega
            have hm := hmem.out k hlt2
            obtain ⟨ar, cr, la, hxi⟩ := hY.out k (by rw [hn.out]; exact hlt2)
            have hck := hle.out k
            have hcs1 := hcs.out k hlt2
            unfold wsB rotN at hcs1
            have hWf := Lib.hid (hWd.out _ hm)
            have hWlf := hWl.out _ hm
            replace hxi := Lib.hid hxi
            generalize fAt L k = f at *
            replace hm := Lib.hid hm
            generalize wordF a b f = l at *
            have hsz : (bytesOf l).size = a + b := by rw [bytesOf_size]; exact hWlf
            have hcmp : ((((bytesOf l).size : Nat) : Int) != (a : Int) + (b : Int)) = false := by rw [hsz, bne_eq_false_iff_eq]; omega
            have q1 := slD l D (by omega) (by omega)
            have q2 := slT l D (by omega) (by omega)
            have q3 : bytesOf (l.drop D) ++ bytesOf (l.take D) = bytesOf (l.drop D ++ l.take D) := by apply ByteArray.ext; simp [bytesOf]
            have q5 : (bytesOf (l.drop D)).size + (bytesOf (l.take D)).size ≤ 9223372036854775807 := by rw [bytesOf_size, bytesOf_size, List.length_drop, List.length_take]; omega
            have q4 := eqB (l.drop D ++ l.take D) l
            generalize hq : (l.drop D ++ l.take D == l) = q at *
            have q6 : ((bytesOf (l.drop D ++ l.take D)).toList == (bytesOf l).toList) = q := by rw [bytesOf_toList, bytesOf_toList]; exact hq
            replace hcs1 := Lib.hid hcs1
            replace hWlf := Lib.hid hWlf
            replace hsz := Lib.hid hsz
            go_upto_region 22 with (go_at_call 34; (with_reducible refine (hWf.out _ _ _ hxi.out).mono ?_); rintro _ w5 ⟨rfl, hw5⟩)
            have mY := Lib.hid (hY.out.next hw5)
            have mB := Lib.hid (nextB B0.out hw5)
            clear hw5 la hcmp
            refine wp_region_ext (by kernel_rfl) (by kernel_rfl) ?_
            repeat (go_big_quiet_step (fail))
            refine wpQuiet_nil ?_
            rintro ⟨w6, hw6⟩
            dsimp only
            replace mY := Lib.hid (mY.out.next hw6)
            replace mB := Lib.hid (nextB mB.out hw6)
            clear q1 q2 q3 q4 q5 hw6
            replace hq := Lib.hid hq
            cases q
            · have e : Hid (cn (k + 1) = cn k) := Lib.hid (by have := hcs1.out; simpa using this)
              go_wp2
              go_roundw
              case rel => exact ⟨k + 1, by omega, by rw [e.out], by go_num, mY.out, mB.out⟩
              case measure => simp [intOf]; omega
            · have e : Hid (cn (k + 1) = cn k + 1) := Lib.hid (by have := hcs1.out; simpa using this)
              go_wp2
              go_roundw
              case rel => exact ⟨k + 1, by omega, by rw [e.out]; go_num, by go_num, mY.out, mB.out⟩
              case measure => simp [intOf]; omega
          · have hlt' : (n : Int) ≤ (k : Int) := by omega
            obtain rfl : k = n := by omega
            rw [hfin2.out]
            go_wp2_with (go_at_call 15; refine (alive_any _).mono ?_; rintro _ w9 ⟨rfl, hw9⟩)
            go_ret
            exact ⟨rfl, nextB B0.out hw9⟩

      · obtain rfl : x = (D : Int) := by have := ed.out; omega
        have hfin2 := Lib.hid (hfin.out (by omega))
        go_upto_region 16 with (go_at_call 45; (with_reducible refine (hSt.out _).mono ?_); rintro _ w2 ⟨v, G, rfl, hGl, hown, hTC, hw2⟩)
        rw [hn.out] at hGl hown
        obtain ⟨Bt, cL, e⟩ := own_pos hown hpos
        subst e
        have hY := Lib.hid (rowsI_of hGl.symm hn.out hown hTC)
        have B0 := Lib.hid (nextB hw1 hw2)
        clear hGl hown hTC hw2 hSt hw1
        go_wp2
        go_loopw [14, 16] (fun p i wr => ∃ k : Nat, k ≤ n ∧ p = .int .i64 ((cn k : Nat) : Int) ∧ i = .int .i64 (k : Int) ∧ RowsI wr Bt a L ∧ Below w.heap.size w wr) (fun _ i _ => n - (intOf i).toNat)
        case atStart => exact ⟨0, Nat.zero_le _, by rw [hc0.out]; rfl, rfl, hY.out, B0.out⟩
        case round =>
          clear hY B0
          obtain ⟨k, hk, rfl, rfl, hY, B0⟩ := hrel
          replace hY := Lib.hid hY
          replace B0 := Lib.hid B0
          by_cases hlt2 : k < n
          · have hlt' : (k : Int) < (n : Int) := by omega
            have hk0 : (0 : Int) ≤ (k : Int) := by omega
            have hm := hmem.out k hlt2
            obtain ⟨ar, cr, la, hxi⟩ := hY.out k (by rw [hn.out]; exact hlt2)
            have hck := hle.out k
            have hcs1 := hcs.out k hlt2
            unfold wsB rotN at hcs1
            have hWf := Lib.hid (hWd.out _ hm)
            have hWlf := hWl.out _ hm
            replace hxi := Lib.hid hxi
            generalize fAt L k = f at *
            replace hm := Lib.hid hm
            generalize wordF a b f = l at *
            have hsz : (bytesOf l).size = a + b := by rw [bytesOf_size]; exact hWlf
            have hcmp : ((((bytesOf l).size : Nat) : Int) != (a : Int) + (b : Int)) = false := by rw [hsz, bne_eq_false_iff_eq]; omega
            have q1 := slD l D (by omega) (by omega)
            have q2 := slT l D (by omega) (by omega)
            have q3 : bytesOf (l.drop D) ++ bytesOf (l.take D) = bytesOf (l.drop D ++ l.take D) := by apply ByteArray.ext; simp [bytesOf]
            have q5 : (bytesOf (l.drop D)).size + (bytesOf (l.take D)).size ≤ 9223372036854775807 := by rw [bytesOf_size, bytesOf_size, List.length_drop, List.length_take]; omega
            have q4 := eqB (l.drop D ++ l.take D) l
            generalize hq : (l.drop D ++ l.take D == l) = q at *
            have q6 : ((bytesOf (l.drop D ++ l.take D)).toList == (bytesOf l).toList) = q := by rw [bytesOf_toList, bytesOf_toList]; exact hq
            replace hcs1 := Lib.hid hcs1
            replace hWlf := Lib.hid hWlf
            replace hsz := Lib.hid hsz
            go_upto_region 22 with (go_at_call 34; (with_reducible refine (hWf.out _ _ _ hxi.out).mono ?_); rintro _ w5 ⟨rfl, hw5⟩)
            have mY := Lib.hid (hY.out.next hw5)
            have mB := Lib.hid (nextB B0.out hw5)
            clear hw5 la hcmp
            refine wp_region_ext (by kernel_rfl) (by kernel_rfl) ?_
            repeat (go_big_quiet_step (fail))
            refine wpQuiet_nil ?_
            rintro ⟨w6, hw6⟩
            dsimp only
            replace mY := Lib.hid (mY.out.next hw6)
            replace mB := Lib.hid (nextB mB.out hw6)
            clear q1 q2 q3 q4 q5 hw6
            replace hq := Lib.hid hq
            cases q
            · have e : Hid (cn (k + 1) = cn k) := Lib.hid (by have := hcs1.out; simpa using this)
              go_wp2
              go_roundw
              case rel => exact ⟨k + 1, by omega, by rw [e.out], by go_num, mY.out, mB.out⟩
              case measure => simp [intOf]; omega
            · have e : Hid (cn (k + 1) = cn k + 1) := Lib.hid (by have := hcs1.out; simpa using this)
              go_wp2
              go_roundw
              case rel => exact ⟨k + 1, by omega, by rw [e.out]; go_num, by go_num, mY.out, mB.out⟩
              case measure => simp [intOf]; omega
          · have hlt' : (n : Int) ≤ (k : Int) := by omega
            obtain rfl : k = n := by omega
            rw [hfin2.out]
            go_wp2_with (go_at_call 15; refine (alive_any _).mono ?_; rintro _ w9 ⟨rfl, hw9⟩)
            go_ret
            exact ⟨rfl, nextB B0.out hw9⟩

end Go.Proofs.Ytniknldeafmgaaa
