/- Layer 2: choices, by the specification. -/
import Derived.Test.YtflbaadfbjpakaaMc
namespace Go.Proofs.Ytflbaadfbjpakaa
open Go Go.RowKit

theorem and_pw (u i : Nat) : u &&& pw i = 0 ↔ u.testBit i = false := by
  unfold pw
  constructor
  · intro h
    have : (u &&& 2 ^ i).testBit i = false := by rw [h]; exact Nat.zero_testBit i
    rw [Nat.testBit_and, Nat.testBit_two_pow] at this
    simpa using this
  · intro h
    refine Nat.eq_of_testBit_eq fun j => ?_
    rw [Nat.testBit_and, Nat.testBit_two_pow, Nat.zero_testBit]
    by_cases hj : i = j
    · subst hj; simp [h]
    · simp [hj]
theorem bit_free (u i : Nat) : (((u / 2 ^ i : Nat) : Int) % 2 == 0) = decide (u &&& pw i = 0) := by
  have ht : u.testBit i = decide (u / 2 ^ i % 2 = 1) := Nat.testBit_eq_decide_div_mod_eq
  have ha := and_pw u i
  rw [ht] at ha
  rcases Nat.mod_two_eq_zero_or_one (u / 2 ^ i) with h | h
  · have e : ((u / 2 ^ i : Nat) : Int) % 2 = 0 := by omega
    rw [e, decide_eq_true (ha.2 (by rw [h]; rfl))]; rfl
  · have e : ((u / 2 ^ i : Nat) : Int) % 2 = 1 := by omega
    rw [e, decide_eq_false (fun hh => by have := ha.1 hh; rw [h] at this; cases this)]; rfl
theorem shr_tmod (u i : Nat) : ((u : Int) / 2 ^ i).tmod 2 = ((u / 2 ^ i : Nat) : Int) % 2 := by
  have : (u : Int) / 2 ^ i = ((u / 2 ^ i : Nat) : Int) := by rw [Int.natCast_ediv, Int.natCast_pow]; rfl
  rw [this, Int.tmod_eq_emod_of_nonneg (Int.natCast_nonneg _)]
theorem shr_one {u i : Nat} (h : (((u / 2 ^ i : Nat) : Int) % 2 == 0) = false) : ((u : Int) / 2 ^ i).tmod 2 = 1 := by
  rw [beq_eq_false_iff_ne] at h
  rw [shr_tmod]
  omega
theorem shr_zero {u i : Nat} (h : (((u / 2 ^ i : Nat) : Int) % 2 == 0) = true) : ((u : Int) / 2 ^ i).tmod 2 = 0 := by
  rw [beq_iff_eq] at h
  rw [shr_tmod, h]
/-- The corners from one on, around, until before another one. -/
def Way (n : Nat) : Nat → List Nat → Nat → Prop
  | a, [], to => a = to
  | a, c :: cs, to => c = a ∧ a ≠ to ∧ Way n ((a + 1) % n) cs to
theorem way_cons {n a c to : Nat} {cs : List Nat} : Way n a (c :: cs) to ↔ c = a ∧ a ≠ to ∧ Way n ((a + 1) % n) cs to := Iff.rfl
theorem run_shr (u i : Nat) (_hu : u < 1099511627776) (h : i < 40) (w : World) : (binOp .shr 3 (.int .i64 (u : Int)) (.int .i64 (i : Int))).run Try.prog w = .ok (.int .i64 ((u / 2 ^ i : Nat) : Int)) w := by
  go_simp
set_option maxRecDepth 100000 in
set_option maxHeartbeats 4000000 in
theorem refChoices_any (T : List Tri) (aT : Option Addr) (q capT m : Nat) (hq : T.length = q) (hq20 : q ≤ 20) (hm3 : 3 ≤ m) (hm12 : m ≤ 12) : ∀ (cs : List Nat) (at' to' u : Nat) (w : World), cs.length ≤ 11 → Way m at' cs to' → at' < m → to' < m → u < pw 20 → Trs w aT T →
    Calls Try.prog 63 #[.int .i64 m, .slice aT q capT, .int .i64 at', .int .i64 to', .int .i64 u] w (Ret (.int .i64 (choF T cs u)) w) := by
  intro cs
  induction cs with
  | nil =>
    intro a to' u w _ hw _ _ _ _
    obtain rfl : a = to' := hw
    go_enter Try.func63, Try.ntmps63
    go_wp2_with fail
    go_ret
    exact Ret.mk rfl (Below.refl _ _)
  | cons c cs ih =>
    intro a to' u w hn hw ha hto hu hT
    obtain ⟨rfl, hne, hw⟩ := way_cons.1 hw
    have hsum := Lib.hid (choF_cons T c cs u)
    have hl10 : cs.length ≤ 10 := by simp at hn; omega
    have hbd := Lib.hid (fun k (hk : k ≤ q) => show 0 ≤ sumTo (fun i => if u &&& pw i = 0 ∧ hasC (tth T i) c then choF T cs (u ||| pw i) else 0) k ∧ sumTo (fun i => if u &&& pw i = 0 ∧ hasC (tth T i) c then choF T cs (u ||| pw i) else 0) k ≤ 20 * 4096000000000000 from by
      have hp := pow20 (k := cs.length) (by omega)
      have key : ∀ k, k ≤ q → 0 ≤ sumTo (fun i => if u &&& pw i = 0 ∧ hasC (tth T i) c then choF T cs (u ||| pw i) else 0) k ∧ sumTo (fun i => if u &&& pw i = 0 ∧ hasC (tth T i) c then choF T cs (u ||| pw i) else 0) k ≤ k * 4096000000000000 := by
        intro k
        induction k with
        | zero => intro _; simp [sumTo]
        | succ k ihk =>
          intro hk
          rw [sumTo_succ]
          have h1 := ihk (by omega)
          have h2 := choF_bd T (by omega) cs (u ||| pw k)
          split <;> omega
      have := key k hk
      omega)
    generalize hf : (fun i => if u &&& pw i = 0 ∧ hasC (tth T i) c then choF T cs (u ||| pw i) else 0) = f at *
    have hfk := Lib.hid (fun k => show f k = if u &&& pw k = 0 ∧ hasC (tth T k) c then choF T cs (u ||| pw k) else 0 by rw [← hf])
    replace ih := Lib.hid ih
    replace hT := Lib.hid hT
    replace hq := Lib.hid hq
    replace hw := Lib.hid hw
    have hne' : ((c : Int) == (to' : Int)) = false := by rw [beq_eq_false_iff_ne]; omega
    replace hne := Lib.hid hne
    have hnext : ((c : Int) + 1) % (m : Int) = (((c + 1) % m : Nat) : Int) := by rw [Int.natCast_emod]; rfl
    have hnlt := Nat.mod_lt (c + 1) (show m > 0 by omega)
    generalize (c + 1) % m = c' at *
    replace hnext := Lib.hid hnext
    clear hf hn
    go_enter Try.func63, Try.ntmps63
    go_wp2_with fail
    go_loopw [11, 12] (fun s i wr => ∃ k : Nat, k ≤ q ∧ i = .int .i64 k ∧ s = .int .i64 (sumTo f k) ∧ Below w.heap.size w wr) (fun _ i _ => q - (intOf i).toNat)
    case atStart => exact ⟨0, by omega, rfl, rfl, Below.refl _ _⟩
    case round =>
      obtain ⟨k, hk, rfl, rfl, B0⟩ := hrel
      obtain ⟨s0, s1⟩ := hbd.out k hk
      by_cases hlt : k < q
      · have hTr := hT.out.next B0
        rcases hTr with hTr | ⟨bT, rfl, hct⟩
        · exact absurd hq.out (by omega)
        obtain ⟨c0, c1, c2⟩ := hct k (by rw [hq.out]; exact hlt)
        clear hct
        have hi1 : (k : Int) < (q : Int) := by omega
        have hpk := pw_le (show k < 40 by omega)
        have sh : wrap64 ((2 : Int) ^ k) = ((pw k : Nat) : Int) := by rw [pw_int]; exact IntWalk.wrap64_in _ ⟨by have := pw_le (show k < 40 by omega); omega, by have := pw_le (show k < 40 by omega); omega⟩
        have hu2 : u < 1099511627776 := by have := pw_le (show 20 < 40 by omega); omega
        have orr := i64_or_nat u (pw k) (Nat.lt_trans hu2 (by decide)) (Nat.lt_trans hpk (by decide))
        have hO := or_lt hu (show k < 20 by omega)
        have hs := Lib.hid (sumTo_succ f k)
        have hfk' := Lib.hid (hfk.out k)
        have hbf := bit_free u k
        generalize hA : u &&& pw k = A at *
        generalize hOO : u ||| pw k = O at *
        generalize pw k = P at *
        clear hA hOO
        have skipR : Hid (¬ (A = 0 ∧ hasC (tth T k) c) → sumTo f (k + 1) = sumTo f k) := Lib.hid (fun h => by rw [hs.out, hfk'.out, if_neg h, Int.add_zero])
        cases gA : decide (A = 0)
        · have tm : ((u : Int) / 2 ^ k).tmod 2 = 1 := by rw [gA] at hbf; exact shr_one hbf
          have hA0 := Lib.hid (of_decide_eq_false gA)
          clear c0 c1 c2 hbf sh orr gA
          go_wp2_with fail
          go_roundw
          case rel => exact ⟨k + 1, by omega, by go_num, by rw [skipR.out (fun h => hA0.out h.1)], B0⟩
          case measure => simp [intOf]; omega
        · have tm : ((u : Int) / 2 ^ k).tmod 2 = 0 := by rw [gA] at hbf; exact shr_zero hbf
          have hA0 := Lib.hid (of_decide_eq_true gA)
          clear hbf gA
          by_cases hc : hasC (tth T k) c
          · have hyes := Lib.hid hc
            have IH := Lib.hid (fun (x : Ext wr) => ih.out c' to' O x.world (by omega) hw.out hnlt hto hO ((hT.out.next B0).next x.ok))
            have hcb := choF_bd T (by rw [hq.out]; exact hq20) cs O
            have hp20 := pow20 (k := cs.length) (by omega)
            have v1 := hcb.1
            have v2 := Int.le_trans hcb.2 hp20
            clear hcb hp20
            have hnx := hnext.out
            have three : (((tth T k).1 : Int) == (c : Int)) = true ∨ ((((tth T k).1 : Int) == (c : Int)) = false ∧ (((tth T k).2.1 : Int) == (c : Int)) = true) ∨ ((((tth T k).1 : Int) == (c : Int)) = false ∧ (((tth T k).2.1 : Int) == (c : Int)) = false ∧ (((tth T k).2.2 : Int) == (c : Int)) = true) := by
              unfold hasC at hc
              simp only [beq_iff_eq, beq_eq_false_iff_ne]
              omega
            clear hc
            rcases three with g1 | ⟨g1, g2⟩ | ⟨g1, g2, g3⟩
            all_goals (
              go_wp2_with fail
              refine wp_region_ext (by kernel_rfl) (by kernel_rfl) ?_
              repeat (go_big_quiet_step ((go_at_call 63; exact callE (IH.out _))))
              refine wpQuiet_nil ?_
              rintro ⟨w2, hw2⟩
              dsimp only
              have B1 := nextB B0 hw2
              clear hw2 B0 sh orr
              go_wp2_with fail
              go_roundw
              case rel => exact ⟨k + 1, by omega, by go_num, by rw [hs.out, hfk'.out, if_pos ⟨hA0.out, hyes.out⟩], B1⟩
              case measure => simp [intOf]; omega)
          · have hno := Lib.hid hc
            have g1 : (((tth T k).1 : Int) == (c : Int)) = false := by unfold hasC at hc; rw [beq_eq_false_iff_ne]; omega
            have g2 : (((tth T k).2.1 : Int) == (c : Int)) = false := by unfold hasC at hc; rw [beq_eq_false_iff_ne]; omega
            have g3 : (((tth T k).2.2 : Int) == (c : Int)) = false := by unfold hasC at hc; rw [beq_eq_false_iff_ne]; omega
            clear hc sh orr
            go_wp2_with fail
            go_roundw
            case rel => exact ⟨k + 1, by omega, by go_num, by rw [skipR.out (fun h => hno.out h.2)], B0⟩
            case measure => simp [intOf]; omega
      · obtain rfl : k = q := by omega
        go_wp2_with fail
        go_ret
        exact Ret.mk (by rw [hsum.out, hq.out]; rfl) B0
end Go.Proofs.Ytflbaadfbjpakaa
