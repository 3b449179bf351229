/- Layer 8, the law of averages. -/
import Derived.Test.YtniknldeafmgaaaNf
import Derived.Test.YtniknldeafmgaaaJa
namespace Go.Proofs.Ytniknldeafmgaaa
set_option linter.unusedSimpArgs false
set_option linter.unusedVariables false
open Go Go.RowKit

/-- So many ends were returned. -/
def GotE (n : Nat) (w : World) (e : Ending) (w' : World) : Prop := ∃ p c v2, e = .returned (.tuple #[.slice p n c, v2, .int .i64 0]) ∧ Below w.heap.size w w'
theorem EndsR.got {a b : Nat} {g : Nat → Nat} (hp : IsP a b g) {w w' : World} {e : Ending} (h : EndsR a b g w e w') : GotE (eL (stR g 0 a)) w e w' := by
  obtain ⟨v1, v2, h1, h2, _, h4⟩ := h
  rw [ends_len hp] at h2
  obtain ⟨p, c, rfl, _⟩ := own_slice' h2
  exact ⟨p, c, v2, h1, h4⟩
theorem st_len (g : Nat → Nat) : ∀ n r, (stR g r n).length = n
  | 0, _ => rfl
  | n + 1, r => by rw [stR, List.length_cons, st_len g n]
theorem grN_le {a b : Nat} {g : Nat → Nat} (hs : IsS a b g) : ∀ n, grN a b g n ≤ 36 * n
  | 0 => Nat.le_refl _
  | n + 1 => by
    have h1 := grN_le hs n
    have h2 := smN_le (g := dayI a b g n) (fun i => by have := (dayI_S hs n).p.gb i; have := hs.p.b6; omega) a
    rw [smN_eq] at h2
    have := hs.p.a6
    rw [grN]; omega
theorem enN_le {a b : Nat} {g : Nat → Nat} (ha : a ≤ 6) : ∀ n, enN a b g n ≤ 6 * n
  | 0 => Nat.le_refl _
  | n + 1 => by
    have h1 := enN_le (b := b) (g := g) ha n
    have h2 := eL_le (stR (dayI a b g n) 0 a)
    rw [st_len] at h2
    rw [enN]; omega
set_option maxRecDepth 100000 in
set_option maxHeartbeats 4000000 in
theorem means_good (a b : Nat) (g : Nat → Nat) (ad : Option Addr) (c : Nat) (w : World) (hs : IsS a b g) (hI : Ints w ad (stL a g)) :
    Calls Try.prog 10 #[.int .i64 (a : Int), .int .i64 (b : Int), .slice ad a c] w (Ret (.bool true) w) := by
  have ha1 := hs.p.a1
  have ha6 := hs.p.a6
  have hb1 := hs.p.b1
  have hb6 := hs.p.b6
  obtain ⟨T, hT⟩ := isT_ex hs
  have ht1 := hT.t1
  have htl := hT.tl
  have ht12 : T ≤ 12 := by omega
  have hG := good_yes a b g ad c w hs hI
  have hR := Lib.hid (fun ad c w (h : Ints w ad (stL a g)) => (Round_yes a b T g ad c w hs hT h).mono fun _ _ k => k.got (by rw [itL_len]; omega))
  have hEn := Lib.hid (fun k ad c w (h : Ints w ad (stL a (dayI a b g k))) => (Ends_yes a b (dayI a b g k) ad c w (dayI_S hs k) h).mono fun _ _ q => q.got (dayI_S hs k).p)
  have hln := Lib.hid (itL_len a b g T)
  have hat := Lib.hid (fun k (h : k < T) => itL_at a b g h)
  obtain ⟨hm1, hm2⟩ := means hs hT
  have hgs : Hid (∀ n, grN a b g (n + 1) = grN a b g n + smN (dayI a b g n) a) := Lib.hid (fun n => by rw [grN, smN_eq])
  have hes : Hid (∀ n, enN a b g (n + 1) = enN a b g n + eL (stR (dayI a b g n) 0 a)) := Lib.hid (fun n => rfl)
  have hgl := Lib.hid (grN_le hs)
  have hel := Lib.hid (enN_le (a := a) (b := b) (g := g) ha6)
  have hsl := Lib.hid (fun n => smN_le (g := dayI a b g n) (fun i => by have := (dayI_S hs n).p.gb i; omega))
  have hg0 : Hid (grN a b g 0 = 0) := Lib.hid rfl
  have he0 : Hid (enN a b g 0 = 0) := Lib.hid rfl
  have hel2 := Lib.hid (fun n => by have h2 := eL_le (stR (dayI a b g n) 0 a); rw [st_len] at h2; exact h2)
  obtain ⟨GT, hGT⟩ : ∃ GT, Hid (grN a b g T = GT) := ⟨_, Lib.hid rfl⟩
  obtain ⟨ET, hET⟩ : ∃ ET, Hid (enN a b g T = ET) := ⟨_, Lib.hid rfl⟩
  have hGTl : GT ≤ 432 := by rw [← hGT.out]; have := hgl.out T; omega
  have hETl : ET ≤ 72 := by rw [← hET.out]; have := hel.out T; omega
  rw [hGT.out] at hm1
  rw [hET.out] at hm2
  have hab : a * b ≤ 36 := Nat.mul_le_mul ha6 hb6
  have habT : a * b * T ≤ 432 := Nat.mul_le_mul hab ht12
  have z1 : (0 : Int) ≤ (a : Int) * (b : Int) := Int.mul_nonneg (by omega) (by omega)
  have z2 : (a : Int) * (b : Int) ≤ 36 := by exact_mod_cast hab
  have z3 : (0 : Int) ≤ (a : Int) * (b : Int) * (T : Int) := Int.mul_nonneg z1 (by omega)
  have z4 : (a : Int) * (b : Int) * (T : Int) ≤ 432 := by exact_mod_cast habT
  have z5 : (0 : Int) ≤ ((a : Int) + (b : Int)) * (ET : Int) := Int.mul_nonneg (by omega) (by omega)
  have z6 : ((a : Int) + (b : Int)) * (ET : Int) = (a : Int) * (b : Int) * (T : Int) := by exact_mod_cast hm2
  have z7 : 2 * (GT : Int) = (a : Int) * (b : Int) * (T : Int) := by exact_mod_cast hm1
  have hq1 : (2 * (GT : Int) == (a : Int) * (b : Int) * (T : Int)) = true := by rw [beq_iff_eq]; exact z7
  have hq2 : (((a : Int) + (b : Int)) * (ET : Int) == (a : Int) * (b : Int) * (T : Int)) = true := by rw [beq_iff_eq]; exact z6
  have z8 : ((a : Int) + (b : Int)) * (ET : Int) ≤ 432 := by rw [z6]; exact z4
  replace z6 := Lib.hid z6
  replace z7 := Lib.hid z7
  have hd20 : decide ((20 : Int) < (a : Int)) = false := decide_eq_false (by omega)
  have hT0 : ((T : Int) == 0) = false := by rw [beq_eq_false_iff_ne]; omega
  replace hI := Lib.hid hI
  clear hm1 hm2 hT hs
  go_enter Try.func10, Try.ntmps10
  go_wp2_with (first
    | (go_at_call 40; refine hG.mono ?_; rintro _ w1 ⟨rfl, hw1⟩; replace hI := Lib.hid (hI.out.next hw1); have B := Lib.hid hw1; clear hw1 hG)
    | (go_at_call 28; refine (hR.out _ _ _ hI.out).mono ?_; rintro _ w3 ⟨Br, cr, rfl, hr, hw3⟩; replace hr := Lib.hid hr; replace B := Lib.hid (nextB B.out hw3); clear hw3 hI; rw [hln.out]))
  go_loopw [9, 10, 11, 12, 13, 14, 15] (fun s e i _ _ _ _ wr => ∃ k : Nat, k ≤ T ∧ s = .int .i64 (grN a b g k : Nat) ∧ e = .int .i64 (enN a b g k : Nat) ∧ i = .int .i64 (k : Int) ∧ RowsI wr Br a (itL a b g T) ∧ Below w.heap.size w wr) (fun _ _ i _ _ _ _ _ => T - (intOf i).toNat)
  case atStart => exact ⟨0, by omega, by rw [hg0.out]; rfl, by rw [he0.out]; rfl, rfl, hr.out, B.out⟩
  case round =>
    clear hr B
    obtain ⟨k, hk, rfl, rfl, rfl, hr, B⟩ := hrel
    replace hr := Lib.hid hr
    replace B := Lib.hid B
    by_cases hlt : k < T
    · have hlt' : (k : Int) < (T : Int) := by omega
      obtain ⟨ri, ci, hci, hIi⟩ := hr.out k (by rw [hln.out]; exact hlt)
      rw [hat.out k hlt] at hIi
      replace hIi := Lib.hid hIi
      have hEk := Lib.hid (hEn.out k)
      have hgs' := Lib.hid (hgs.out k)
      have hes' := Lib.hid (hes.out k)
      have hgk := hgl.out k
      have hek := hel.out k
      have hsk := Lib.hid (hsl.out k)
      have hel' := hel2.out k
      generalize grN a b g k = G0 at *
      generalize enN a b g k = E0 at *
      generalize dayI a b g k = gk at *
      generalize eL (stR gk 0 a) = ek at *
      go_wp2_with (go_at_call 29; (with_reducible refine (hEk.out _ _ _ hIi.out).mono ?_); rintro _ w4 ⟨p4, c4, v4, rfl, hw4⟩; replace hr := Lib.hid (hr.out.next hw4); replace hIi := Lib.hid (hIi.out.next hw4); replace hci := cellB hw4 hci; replace B := Lib.hid (nextB B.out hw4); clear hw4)
      have hsn : Hid (∀ j, smN gk (j + 1) = smN gk j + gk j) := Lib.hid (fun j => rfl)
      have hs0 : Hid (smN gk 0 = 0) := Lib.hid rfl
      replace hci := Lib.hid hci
      go_loopw [9, 15] (fun s j wr => ∃ q : Nat, q ≤ a ∧ s = .int .i64 ((G0 + smN gk q : Nat) : Int) ∧ j = .int .i64 (q : Int) ∧ RowsI wr Br a (itL a b g T) ∧ Ints wr ri (stL a gk) ∧ wr.cell? ⟨Br, k, none⟩ = some (.slice ri a ci) ∧ Below w.heap.size w wr) (fun _ j _ => a - (intOf j).toNat)
      case atStart => exact ⟨0, by omega, by rw [hs0.out]; rfl, rfl, hr.out, hIi.out, hci.out, B.out⟩
      case round =>
        clear hr hIi hci B
        obtain ⟨q, hq, rfl, rfl, hr, hIi, hci, B⟩ := hrel
        replace hr := Lib.hid hr
        replace B := Lib.hid B
        by_cases hqa : q < a
        · have hqa' : (q : Int) < (a : Int) := by omega
          obtain ⟨bb, off, rfl, hcell⟩ := ints_at hIi (by rw [stL_len]; omega)
          have hx := hcell q (by rw [stL_len]; exact hqa)
          rw [stL_nth _ hqa] at hx
          have hsn' := hsn.out q
          have hq1 := hsk.out (q + 1)
          have hS0 : smN gk q ≤ 36 := by omega
          have hx6 : gk q ≤ 36 := by omega
          replace hIi := Lib.hid hIi
          replace hsn' := Lib.hid hsn'
          clear hcell hq1
          generalize smN gk q = S0 at *
          generalize gk q = x at *
          have hci' := Lib.hid hci
          go_wp2
          go_roundw
          case rel => exact ⟨q + 1, by omega, congrArg (Value.int .i64) (by have := hsn'.out; omega), by go_num, hr.out, hIi.out, hci'.out, B.out⟩
          case measure => simp [intOf]; omega
        · obtain rfl : q = a := by omega
          have e1 : Hid (smN gk q = smN gk q) := Lib.hid rfl
          have hsk' := hsk.out q
          generalize hSm : smN gk q = Sm at *
          replace hSm := Lib.hid hSm
          replace hIi := Lib.hid hIi
          go_wp2
          go_roundw
          case rel => exact ⟨k + 1, by omega, congrArg (Value.int .i64) (by have := hgs'.out; omega), congrArg (Value.int .i64) (by have := hes'.out; omega), by go_num, hr.out, B.out⟩
          case measure => simp [intOf]; omega
    · have hlt' : (T : Int) ≤ (k : Int) := by omega
      have ek : Hid (k = T) := Lib.hid (by omega)
      rw [ek.out, hGT.out, hET.out]
      clear hr hEn hR hgs hes hgl hel hsl hel2 hat
      go_wp2_with (go_at_call 15; refine (alive_any _).mono ?_; rintro _ w7 ⟨rfl, hw7⟩)
      go_ret
      exact Ret.mk rfl (nextB B.out hw7)
set_option maxRecDepth 100000 in
theorem means_law (a b : Int) (ad : Option Addr) (n c : Nat) (xs : List Int)  (w : World) (hI : Ints w ad xs) (hl : xs.length = n) (_hc : n ≤ c) (_hn : ad = none → c = 0)  : Calls Try.prog 10 #[.int .i64 a, .int .i64 b, .slice ad n c] w (Ret (.bool true) w) := by
  clear _hc _hn
  by_cases hlen : 20 < n
  · have hlen' : (20 : Int) < (n : Int) := by omega
    clear hI hl
    go_enter Try.func10, Try.ntmps10
    go_wp2_with (go_at_call 15; refine (alive_any _).mono ?_; rintro _ w1 ⟨rfl, hw1⟩)
    go_ret
    exact Ret.mk rfl hw1
  · by_cases hS : StP a b xs
    · obtain ⟨A, B, rfl, rfl, hS2, hx⟩ := hS.parts
      clear hS
      generalize gX xs = g at *
      subst hx
      rw [stL_len] at hl
      subst hl
      exact means_good A B g ad c  w hS2 hI 
    · have hlen' : (n : Int) ≤ 20 := by omega
      have hG := good_no a b xs ad n c w hI hl (by omega) hS
      clear hI hl hS
      go_enter Try.func10, Try.ntmps10
      go_wp2_with (first | (go_at_call 40; refine hG.mono ?_; rintro _ w2 ⟨rfl, hw2⟩) | (go_at_call 15; refine (alive_any _).mono ?_; rintro _ w1 ⟨rfl, hw1⟩))
      go_ret
      exact Ret.mk rfl (nextB hw2 hw1)

end Go.Proofs.Ytniknldeafmgaaa
