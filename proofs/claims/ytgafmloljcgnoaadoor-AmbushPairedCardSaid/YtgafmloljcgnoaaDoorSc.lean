/- Layer 4, by the specification: the danger and the careful spot; AmbushDangers. -/
import Derived.Test.YtgafmloljcgnoaaDoorSb
import Derived.Test.YtgafmloljcgnoaaDoorBa
import Derived.Test.YtgafmloljcgnoaaDoorQa
namespace Go.Proofs.YtgafmloljcgnoaaDoor
open Go Go.RowKit

theorem shr_bt (f j : Nat) : ((f : Int) / 2 ^ j).tmod 2 = ((bt f j : Nat) : Int) := by
  rw [pw_int, show ((f : Int) / ((pw j : Nat) : Int)) = ((f / pw j : Nat) : Int) from (Int.natCast_ediv _ _).symm, Int.tmod_eq_emod_of_nonneg (Int.natCast_nonneg _)]
  exact (Int.natCast_emod _ _).symm
set_option maxRecDepth 100000 in
set_option maxHeartbeats 4000000 in
theorem refDanger_any (m : Nat) (a : Option Addr) (n c : Nat) (R : List Int) (x y : Nat) (w : World) (h : Ints w a R) (hn : R.length = n) (hF : FieldP m R) (hx : x < 512) (hy : y < 512) :
    Calls Tryd.prog 62 #[.int .i64 (m : Nat), .slice a n c, .int .i64 (x : Nat), .int .i64 (y : Nat)] w (Only (.int .i64 (dngL m R x y : Nat)) w) := by
  have hm := hF.le
  have h12 : n ≤ 12 := by have := hF.few; omega
  have hnx := Lib.hid (fun k (hk : k < n) => hF.at (k := k) (by omega))
  have hdt := Lib.hid (fun k (hk : k < n) => dng_take m R x y k (by omega))
  have hdl : Hid (∀ k, k ≤ n → dngL m (R.take k) x y ≤ 6144) := Lib.hid (fun k hk => by
    have := dng_le hm x y (R.take k)
    rw [List.length_take] at this
    omega)
  have hend : Hid (R.take n = R) := Lib.hid (List.take_of_length_le (by omega))
  have hh : Hid (0 < n → ∃ b off, a = some ⟨b, off, none⟩ ∧ ∀ i, i < n → w.cell? ⟨b, off + i, none⟩ = some (.int .i64 (nth R i))) := Lib.hid (fun h0 => by
    obtain ⟨b, off, e, hc⟩ := ints_at h (by omega)
    exact ⟨b, off, e, fun i hi => hc i (by omega)⟩)
  have hwt : Hid (∀ z, z &&& y = 0 → wt m z x y = pw (m - cntF (dif z x) m)) := Lib.hid (fun z hz => by
    unfold wt
    rw [if_pos hz, lack_cnt (y := dif z x) (fun i _ => dif_test z x i)])
  have hwz : Hid (∀ z, z &&& y ≠ 0 → wt m z x y = 0) := Lib.hid (fun z hz => by unfold wt; rw [if_neg hz])
  clear h hn hF
  go_enter Tryd.func62, Tryd.ntmps62
  go_wp2
  go_loop [9, 10] (fun s i => ∃ k : Nat, k ≤ n ∧ i = .int .i64 k ∧ s = .int .i64 (dngL m (R.take k) x y : Nat)) (fun _ i => n - (intOf i).toNat)
  case atStart => exact ⟨0, by omega, rfl, rfl⟩
  case round =>
    obtain ⟨k, hk, rfl, rfl⟩ := hrel
    by_cases hlt : k < n
    · obtain ⟨b, off, rfl, hcc⟩ := hh.out (by omega)
      have z0 := hcc k hlt
      clear hcc
      obtain ⟨k1, k2, k3, k4⟩ := hnx.out k hlt
      have hdk := Lib.hid (hdt.out k hlt)
      have hdb := hdl.out k hk
      rw [k4] at z0
      generalize dngL m (R.take k) x y = D at *
      generalize (nth R k).toNat = z at *
      clear k4
      have hki : (k : Int) < (n : Int) := by omega
      have an := i64_and_nat z y (by omega) (by omega)
      by_cases h0 : z &&& y = 0
      · have t1 := hwt.out z h0
        rw [h0] at an
        have an0 : bits .and .i64 (z : Int) (y : Int) = 0 := an
        clear an
        have an2 := i64_andNot_nat z x (by omega) (by omega)
        rw [t1] at hdk
        have hdz : dif z x < 512 := Nat.lt_of_le_of_lt (dif_le z x) k2
        have hcl := Lib.hid (cntF_le (dif z x))
        generalize dif z x = f at *
        clear t1 hwt hwz hdt hdl
        replace h0 := Lib.hid h0
        go_wp2
        go_loop [11, 12] (fun s i => ∃ j : Nat, j ≤ m ∧ i = .int .i64 j ∧ s = .int .i64 (cntF f j : Nat)) (fun _ i => m - (intOf i).toNat)
        case atStart => exact ⟨0, by omega, rfl, rfl⟩
        case round =>
          obtain ⟨j, hj, rfl, rfl⟩ := hrel
          have hcj := hcl.out j
          by_cases hjm : j < m
          · have hji : (j : Int) < (m : Int) := by omega
            have hst : Hid (cntF f (j + 1) = cntF f j + bt f j) := Lib.hid rfl
            generalize cntF f j = q at *
            go_wp2
            go_round
            case rel =>
              have hb1 := bt_lt f j
              exact ⟨j + 1, by omega, by go_num, by rw [hst.out, shr_bt, wrap64_i, IntWalk.i64_in _ (by omega)]; rfl⟩
            case measure => simp [intOf]; omega
          · have hjm2 : j = m := by omega
            rw [hjm2] at hcj ⊢
            generalize cntF f m = q at *
            have hsu : IntKind.i64.wrap ((m : Int) - (q : Int)) = ((m - q : Nat) : Int) := by rw [IntWalk.i64_in _ (by omega)]; omega
            have sh := wrap_shl (k := m - q) (by omega)
            have hpb : pw (m - q) ≤ 512 := by have := pw_mono (show m - q ≤ 9 by omega); have h4 : pw 9 = 512 := rfl; omega
            have had : IntKind.i64.wrap ((D : Int) + ((pw (m - q) : Nat) : Int)) = ((D + pw (m - q) : Nat) : Int) := by rw [IntWalk.i64_in _ (by omega)]; omega
            have hq : (0 : Int) ≤ ((m - q : Nat) : Int) := by omega
            have hq2 : ¬ (((m - q : Nat) : Int) < 0) := by omega
            have hr : Hid (m - q ≤ 9) := Lib.hid (by omega)
            generalize pw (m - q) = e at *
            generalize m - q = r at *
            replace hdb := Lib.hid hdb
            clear hcj hjm2 hjm
            go_wp2
            go_round
            case rel =>
              have hmin : min r 64 = r := by have := hr.out; omega
              exact ⟨k + 1, by omega, by go_num, by rw [hdk.out, hmin, wrap64_i, wrap64_i, sh, had]⟩
            case measure => simp [intOf]; omega
      · have hz0 := hwz.out z h0
        rw [hz0] at hdk
        have hne : ((z &&& y : Nat) : Int) ≠ 0 := by omega
        generalize z &&& y = g at *
        have hne2 : (((g : Nat) : Int) == 0) = false := by rw [beq_eq_false_iff_ne]; exact hne
        go_wp2
        go_round
        case rel => exact ⟨k + 1, by omega, by go_num, by rw [hdk.out]; rfl⟩
        case measure => simp [intOf]; omega
    · obtain rfl : k = n := by omega
      rw [hend.out]
      go_wp2
      go_ret
      exact Only.mk rfl
set_option maxRecDepth 100000 in
set_option maxHeartbeats 4000000 in
theorem refDangerE_any (x : Int) (a : Option Addr) (n c : Nat) (R : List Int) (s : ByteArray) (w : World) (h : Ints w a R) (hn : R.length = n) :
    Calls Tryd.prog 23 #[.int .i64 x, .slice a n c, .string s] w (Ret (.tuple #[.int .i64 (dngI x R s : Nat), .int .i64 (pE x R s : Nat)]) w) := by
  have F := Lib.hid (fun W hW => refPlaced_any x a n c R s W hW hn)
  have hI := Lib.hid h
  have hn' := Lib.hid hn
  clear h hn
  obtain ⟨e, he⟩ : ∃ e, Hid (pE x R s = e) := ⟨_, Lib.hid rfl⟩
  obtain ⟨r, hr⟩ : ∃ r, Hid (dngI x R s = r) := ⟨_, Lib.hid rfl⟩
  have he6 : e < 6 := by rw [← he.out]; exact pE_lt x R s
  rw [he.out] at F
  rw [he.out, hr.out]
  by_cases h1 : e = 0
  · subst h1
    obtain ⟨hx, hF, _⟩ := pE_ok he.out
    obtain ⟨m, hm⟩ : ∃ m, x.toNat = m := ⟨_, rfl⟩
    have hr2 := hr.out
    unfold dngI at hr2
    rw [he.out, if_pos rfl] at hr2
    simp only [if_true] at F
    rw [hm] at hx hF hr2 F
    subst hx
    obtain ⟨hu9, hv9⟩ := (psB_pos s m).lt hF.le
    have D := Lib.hid (fun W hW => refDanger_any m a n c R (psB s 119 m) (psB s 100 m) W hW hn'.out hF hu9 hv9)
    rw [hr2] at D
    generalize psB s 119 m = u at *
    generalize psB s 100 m = v at *
    replace hF := Lib.hid hF
    clear hm hr2
    go_enter Tryd.func23, Tryd.ntmps23
    go_wp2_with (first
      | (go_at_call 44; refine (F.out _ hI.out).mono ?_; rintro e w1 ⟨rfl, hb1⟩)
      | (go_at_call 62; refine (D.out _ (hI.out.next hb1)).mono ?_; rintro e w2 ⟨rfl, rfl⟩))
    go_ret2
    exact Ret.mk rfl hb1
  · have hr2 : Hid (r = 0) := Lib.hid (by rw [← hr.out]; unfold dngI; rw [he.out, if_neg h1])
    rw [hr2.out]
    rw [if_neg h1, if_neg h1] at F
    have d1 : ((e : Int) != 0) = true := by rw [bne_iff_ne]; omega
    go_enter Tryd.func23, Tryd.ntmps23
    go_wp2_with (go_at_call 44; refine (F.out _ hI.out).mono ?_; rintro e w1 ⟨rfl, hb1⟩)
    go_ret2
    exact Ret.mk rfl hb1
theorem frL_next (k u v : Nat) : frL (k + 1) u v = if frB u v k = true then frL k u v ++ [k] else frL k u v := by
  unfold frL
  rw [List.range_succ, List.filter_append]
  cases h : frB u v k <;> simp [h]
theorem bt_orF {u v k : Nat} : bt (u ||| v) k = if frB u v k = true then 0 else 1 := by
  rw [bt_test, Nat.testBit_or]
  unfold frB
  cases u.testBit k <;> cases v.testBit k <;> rfl
theorem frL_test {u v k : Nat} (h : frB u v k = true) : u.testBit k = false ∧ v.testBit k = false := by
  unfold frB at h
  cases h1 : u.testBit k <;> cases h2 : v.testBit k <;> simp_all
/-- The best spot of those that were looked at, or -1. -/
def bsI (f : Nat → Nat) (l : List Nat) : Int := if l = [] then -1 else (mnL f l : Nat)
/-- Its danger. -/
def lsI (f : Nat → Nat) (l : List Nat) : Nat := if l = [] then 0 else f (mnL f l)
theorem bs_snoc (f : Nat → Nat) (l : List Nat) (k : Nat) : bsI f (l ++ [k]) = (if bsI f l < 0 ∨ f k < lsI f l then (k : Int) else bsI f l) ∧ lsI f (l ++ [k]) = (if bsI f l < 0 ∨ f k < lsI f l then f k else lsI f l) := by
  have e1 : bsI f (l ++ [k]) = (mnL f (l ++ [k]) : Nat) := if_neg (by simp)
  have e2 : lsI f (l ++ [k]) = f (mnL f (l ++ [k])) := if_neg (by simp)
  rw [e1, e2]
  by_cases h : l = []
  · subst h
    exact ⟨rfl, rfl⟩
  · have e3 : bsI f l = (mnL f l : Nat) := if_neg h
    have e4 : lsI f l = f (mnL f l) := if_neg h
    rw [e3, e4, mnL_snoc f h]
    have h0 : ¬ ((mnL f l : Nat) : Int) < 0 := by omega
    by_cases g : f k < f (mnL f l)
    · rw [if_pos g, if_pos (Or.inr g), if_pos (Or.inr g)]; exact ⟨rfl, rfl⟩
    · rw [if_neg g, if_neg (fun hh => hh.elim h0 g), if_neg (fun hh => hh.elim h0 g)]; exact ⟨rfl, rfl⟩
set_option maxRecDepth 100000 in
set_option maxHeartbeats 4000000 in
theorem refCareful_any (x : Int) (a : Option Addr) (n c : Nat) (R : List Int) (s : ByteArray) (w : World) (h : Ints w a R) (hn : R.length = n) :
    Calls Tryd.prog 25 #[.int .i64 x, .slice a n c, .string s] w (Ret (.tuple #[.int .i64 (caI x R s : Nat), .int .i64 (caE x R s : Nat)]) w) := by
  have F := Lib.hid (fun W hW => refPlaced_any x a n c R s W hW hn)
  have hI := Lib.hid h
  have hn' := Lib.hid hn
  clear h hn
  obtain ⟨e, he⟩ : ∃ e, Hid (pE x R s = e) := ⟨_, Lib.hid rfl⟩
  obtain ⟨r, hr⟩ : ∃ r, Hid (caI x R s = r) := ⟨_, Lib.hid rfl⟩
  obtain ⟨q, hq⟩ : ∃ q, Hid (caE x R s = q) := ⟨_, Lib.hid rfl⟩
  have he6 : e < 6 := by rw [← he.out]; exact pE_lt x R s
  rw [he.out] at F
  rw [hr.out, hq.out]
  by_cases h1 : e = 0
  · subst h1
    obtain ⟨hx, hF, hs, _⟩ := pE_ok he.out
    obtain ⟨m, hm⟩ : ∃ m, x.toNat = m := ⟨_, rfl⟩
    have hr2 := hr.out
    unfold caI at hr2
    rw [hq.out] at hr2
    have hq2 := hq.out
    unfold caE at hq2
    rw [he.out, if_pos rfl] at hq2
    simp only [if_true] at F
    rw [hm] at hx hF hr2 hq2 F hs
    subst hx
    obtain ⟨hu9, hv9⟩ := (psB_pos s m).lt hF.le
    have hm9 := hF.le
    have D := Lib.hid (fun k (hk : k < 9) W hW => refDanger_any m a n c R (psB s 119 m) (psB s 100 m ||| pw k) W hW hn'.out hF hu9 (Nat.or_lt_two_pow (n := 9) hv9 (by have := pw_lt hk; simpa [pw] using this)))
    have hle : Hid (∀ v, dngL m R (psB s 119 m) v ≤ 6144) := Lib.hid (fun v => by
      have := dng_le hF.le (psB s 119 m) v R
      have := hF.few
      omega)
    generalize psB s 119 m = u at *
    generalize psB s 100 m = v at *
    have hor := i64_or_nat u v (by omega) (by omega)
    have N := Lib.hid (fun k => frL_next k u v)
    have T := Lib.hid (fun k => bt_orF (u := u) (v := v) (k := k))
    obtain ⟨f, hf⟩ : ∃ f : Nat → Nat, Hid (∀ k, dngL m R u (v ||| pw k) = f k) := ⟨fun k => dngL m R u (v ||| pw k), Lib.hid fun _ => rfl⟩
    have hff : Hid (dgT m R u v = f) := Lib.hid (funext hf.out)
    have S := Lib.hid (fun l k => bs_snoc f l k)
    have fb := Lib.hid (fun k => (hf.out k) ▸ hle.out (v ||| pw k))
    rw [hff.out] at hr2
    simp only [hf.out] at D
    generalize hz : u ||| v = z at *
    replace hF := Lib.hid hF
    replace hz := Lib.hid hz
    have hq3 := Lib.hid hq2
    have hr3 := Lib.hid hr2
    clear hm hs hr2 hq2 hle
    go_enter Tryd.func25, Tryd.ntmps25
    go_wp2_with (go_at_call 44; refine (F.out _ hI.out).mono ?_; rintro e w1 ⟨rfl, hb1⟩)
    go_loop [11, 12, 13] (fun b l i => ∃ k : Nat, k ≤ m ∧ i = .int .i64 k ∧ b = .int .i64 (bsI f (frL k u v)) ∧ l = .int .i64 (lsI f (frL k u v) : Nat)) (fun _ _ i => m - (intOf i).toNat)
    case atStart => exact ⟨0, by omega, rfl, rfl, rfl⟩
    case round =>
      obtain ⟨k, hk, rfl, rfl, rfl⟩ := hrel
      by_cases hlt : k < m
      · have hki : (k : Int) < (m : Int) := by omega
        have hN := N.out k
        have hT := T.out k
        have hsb := shr_bt z k
        cases g : frB u v k
        · rw [g] at hN hT
          simp only [Bool.false_eq_true, if_false, if_true] at hN hT
          rw [hT] at hsb
          have hsb1 : (((z : Int) / 2 ^ k).tmod 2 == 1) = true := by rw [hsb]; rfl
          replace hN := Lib.hid hN
          generalize hl : frL k u v = l at *
          replace hl := Lib.hid hl
          generalize hb : bsI f l = b at *
          replace hb := Lib.hid hb
          generalize hs : lsI f l = ls at *
          replace hs := Lib.hid hs
          clear hT g hsb
          go_wp2
          go_round
          case rel => exact ⟨k + 1, by omega, by go_num, by rw [hN.out, hb.out], by rw [hN.out, hs.out]⟩
          case measure => simp [intOf]; omega
        · rw [g] at hN hT
          simp only [if_true] at hN hT
          rw [hT] at hsb
          have hsb1 : (((z : Int) / 2 ^ k).tmod 2 == 1) = false := by rw [hsb]; rfl
          have hfr := frL_test g
          have hpk := pw_le (i := k) (by omega)
          have hp9 : pw k ≤ 512 := by have := pw_mono (show k ≤ 9 by omega); have h4 : pw 9 = 512 := rfl; omega
          have sh := wrap_shl (k := k) (by omega)
          have hor2 : (v : Int) + ((pw k : Nat) : Int) = ((v ||| pw k : Nat) : Int) := by rw [or_eq_add hfr.2]; omega
          have hadd : IntKind.i64.wrap ((v : Int) + ((pw k : Nat) : Int)) = ((v ||| pw k : Nat) : Int) := by rw [IntWalk.i64_in _ (by omega)]; exact hor2
          have Dk := Lib.hid (D.out k (by omega))
          obtain ⟨S1, S2⟩ := S.out (frL k u v) k
          rw [← hN] at S1 S2
          have fk := fb.out k
          have hmin : min k 64 = k := by omega
          generalize hl : frL k u v = l at *
          replace hl := Lib.hid hl
          generalize bsI f l = b at *
          generalize lsI f l = ls at *
          generalize v ||| pw k = y at *
          generalize hf1 : f k = fv at *
          replace hf1 := Lib.hid hf1
          clear hT g hsb hfr hor2
          by_cases c1 : b < 0
          · rw [if_pos (Or.inl c1)] at S1 S2
            replace S1 := Lib.hid S1
            replace S2 := Lib.hid S2
            go_wp2_with (go_at_call 62; refine (Dk.out _ (hI.out.next hb1)).mono ?_; rintro e w2 ⟨rfl, rfl⟩)
            go_round
            case rel => exact ⟨k + 1, by omega, by go_num, by rw [S1.out], by rw [S2.out]⟩
            case measure => simp [intOf]; omega
          · by_cases c2 : fv < ls
            · rw [if_pos (Or.inr c2)] at S1 S2
              have c3 : (fv : Int) < (ls : Int) := by omega
              replace S1 := Lib.hid S1
              replace S2 := Lib.hid S2
              clear c2
              go_wp2_with (go_at_call 62; refine (Dk.out _ (hI.out.next hb1)).mono ?_; rintro e w2 ⟨rfl, rfl⟩)
              go_round
              case rel => exact ⟨k + 1, by omega, by go_num, by rw [S1.out], by rw [S2.out]⟩
              case measure => simp [intOf]; omega
            · rw [if_neg (fun hh => hh.elim c1 c2)] at S1 S2
              have c3 : ¬ ((fv : Int) < (ls : Int)) := by omega
              replace S1 := Lib.hid S1
              replace S2 := Lib.hid S2
              clear c2
              go_wp2_with (go_at_call 62; refine (Dk.out _ (hI.out.next hb1)).mono ?_; rintro e w2 ⟨rfl, rfl⟩)
              go_round
              case rel => exact ⟨k + 1, by omega, by go_num, by rw [S1.out], by rw [S2.out]⟩
              case measure => simp [intOf]; omega
      · have hkm : k = m := by omega
        rw [hkm]
        have hq4 := hq3.out
        have hr4 := hr3.out
        by_cases h0 : frL m u v = []
        · rw [if_pos h0] at hq4
          subst hq4
          rw [if_neg (by omega)] at hr4
          subst hr4
          have hbs : bsI f (frL m u v) = -1 := if_pos h0
          rw [hbs]
          replace h0 := Lib.hid h0
          generalize lsI f (frL m u v) = ls at *
          clear hlt hkm hk
          go_wp2
          go_ret2
          exact Ret.mk rfl hb1
        · rw [if_neg h0] at hq4
          subst hq4
          rw [if_pos rfl] at hr4
          have hbs : bsI f (frL m u v) = (mnL f (frL m u v) : Nat) := if_neg h0
          rw [hbs]
          rw [hr4]
          replace hr4 := Lib.hid hr4
          replace h0 := Lib.hid h0
          generalize lsI f (frL m u v) = ls at *
          clear hlt hkm hk
          have hr0 : ¬ (r : Int) < 0 := by omega
          go_wp2
          go_ret2
          exact Ret.mk rfl hb1
  · have hq2 : Hid (q = e) := Lib.hid (by rw [← hq.out]; unfold caE; rw [he.out, if_neg h1])
    have hr2 : Hid (r = 0) := Lib.hid (by rw [← hr.out]; unfold caI; rw [hq.out, hq2.out, if_neg h1])
    rw [hr2.out, hq2.out]
    rw [if_neg h1, if_neg h1] at F
    have d1 : ((e : Int) != 0) = true := by rw [bne_iff_ne]; omega
    go_enter Tryd.func25, Tryd.ntmps25
    go_wp2_with (go_at_call 44; refine (F.out _ hI.out).mono ?_; rintro e w1 ⟨rfl, hb1⟩)
    go_ret2
    exact Ret.mk rfl hb1
theorem caE_lt (x : Int) (R : List Int) (s : ByteArray) : caE x R s < 10 := by
  have := pE_lt x R s
  unfold caE
  split
  · split <;> omega
  · omega
set_option maxRecDepth 100000 in
set_option maxHeartbeats 4000000 in
theorem dangers_any (x : Int) (a : Option Addr) (n c : Nat) (R : List Int) (s : ByteArray) (w : World) (h : Ints w a R) (hn : R.length = n) (_hnc : n ≤ c) (_hnil : a = none → c = 0) (hT : Tab w) :
    Calls Tryd.prog 4 #[.int .i64 x, .slice a n c, .string s] w (Ret (.bool true) w) := by
  have hAl := Lib.hid (fun W hW => alive_any W hW)
  have hFw := Lib.hid (fun W => few_any n c a s strE W)
  replace hT := Lib.hid hT
  cases hf : decide (n ≤ 40) && decide (s.size ≤ 40)
  · have hf2 : (decide (n ≤ 40) && decide (s.size ≤ 40) && decide (strE.size ≤ 40)) = false := by rw [hf]; rfl
    rw [hf2] at hFw
    clear hn
    go_enter Tryd.func4, Tryd.ntmps4
    go_wp2_with (first
      | (go_at_call 15; refine (hFw.out _).mono ?_; rintro e w1 ⟨rfl, rfl⟩)
      | (go_at_call 16; refine (hAl.out _ hT.out).mono ?_; rintro e w1 ⟨rfl, hb1⟩))
    go_ret
    exact Ret.mk rfl hb1
  · have hf2 : (decide (n ≤ 40) && decide (s.size ≤ 40) && decide (strE.size ≤ 40)) = true := by rw [hf]; rfl
    rw [hf2] at hFw
    have D1 := Lib.hid (fun W hW => Danger_any x a n c R s W hW hn)
    have D2 := Lib.hid (fun W hW => refDangerE_any x a n c R s W hW hn)
    have C1 := Lib.hid (fun W hW hTW => Careful_any x a n c R s W hW hn hTW)
    have C2 := Lib.hid (fun W hW => refCareful_any x a n c R s W hW hn)
    have hI := Lib.hid h
    clear hf hf2 h hn
    have b0 := Below.refl w.heap.size w
    generalize dngI x R s = d at *
    generalize pE x R s = e at *
    generalize caI x R s = k at *
    generalize caE x R s = q at *
    go_enter Tryd.func4, Tryd.ntmps4
    go_wp2_with (first
      | (go_at_call 15; refine (hFw.out _).mono ?_; rintro e w1 ⟨rfl, rfl⟩)
      | (go_at_call 22; refine (D1.out _ hI.out).mono ?_; rintro e w2 ⟨rfl, hb2⟩)
      | (go_at_call 23; refine (D2.out _ (hI.out.next hb2)).mono ?_; rintro e w3 ⟨rfl, hb3⟩; replace hb2 := nextB hb2 hb3)
      | (go_at_call 24; refine (C1.out _ (hI.out.next hb2) (hT.out.next hb2)).mono ?_; rintro e w4 ⟨rfl, hb4⟩; replace hb2 := nextB hb2 hb4)
      | (go_at_call 25; refine (C2.out _ (hI.out.next hb2)).mono ?_; rintro e w5 ⟨rfl, hb5⟩; replace hb2 := nextB hb2 hb5)
      | (go_at_call 16; refine (hAl.out _ (hT.out.next hb2)).mono ?_; rintro e w6 ⟨rfl, hb6⟩))
    go_ret
    exact Ret.mk rfl (nextB hb2 hb6)
end Go.Proofs.YtgafmloljcgnoaaDoor
