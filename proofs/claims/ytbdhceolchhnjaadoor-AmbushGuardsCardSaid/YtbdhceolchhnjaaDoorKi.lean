/- Layer 4, by the specification: Least; what Guards and Least return of no field; AmbushGuards returns true, and changes nothing. -/
import Derived.Test.YtbdhceolchhnjaaDoorKh
import Derived.Test.YtbdhceolchhnjaaDoorQa
import Derived.Test.YtbdhceolchhnjaaDoorGc
namespace Go.Proofs.YtbdhceolchhnjaaDoor
open Go Go.RowKit

theorem all_rangeK (xs : List Int) (p : Int → Bool) : (List.range xs.length).all (fun i => p (nth xs i)) = xs.all p := by
  rw [Bool.eq_iff_iff, List.all_eq_true, List.all_eq_true]
  constructor
  · intro h x hx
    obtain ⟨i, hi, e⟩ := mem_nth hx
    rw [← e]
    exact h i (List.mem_range.2 hi)
  · intro h i hi
    exact h _ (nth_mem (List.mem_range.1 hi))
/-- Is some of the first k lines this set; is each of them this one or not in it? -/
def inTo (R : List Int) (s k : Nat) : Bool := (List.range k).any fun i => (nth R i).toNat == s
def leTo (R : List Int) (s k : Nat) : Bool := (List.range k).all fun i => (nth R i).toNat == s || !(inB (nth R i).toNat s)
theorem inTo_succ (R : List Int) (s k : Nat) : inTo R s (k + 1) = (inTo R s k || (nth R k).toNat == s) := by
  unfold inTo
  rw [List.range_succ, List.any_append]
  simp
theorem leTo_succ (R : List Int) (s k : Nat) : leTo R s (k + 1) = (leTo R s k && ((nth R k).toNat == s || !(inB (nth R k).toNat s))) := by
  unfold leTo
  rw [List.range_succ, List.all_append]
  simp
theorem lq_to (R : List Int) (s : Nat) : lq R s = (inTo R s R.length && leTo R s R.length) := by
  unfold lq inTo leTo
  rw [any_range R (fun x => x.toNat == s), all_rangeK R (fun x => x.toNat == s || !(inB x.toNat s))]
set_option maxRecDepth 100000 in
set_option maxHeartbeats 8000000 in
theorem refLeast_any (m : Nat) (a : Option Addr) (n c : Nat) (R : List Int) (w : World) (hF : FieldP m R) (h : Ints w a R) (hn : R.length = n) :
    Calls Tryd.prog 29 #[.int .i64 (m : Nat), .slice a n c] w (NewIE (lNi (lqTo R (pw m))) w) := by
  have RF := Lib.hid (refField_any (m : Int) a n c R w h hn)
  rw [fE_field hF] at RF
  have hm9 := hF.le
  have sh := wrap_shl (k := m) (by omega)
  have hmin : min m 64 = m := by omega
  have hpl : pw m ≤ 512 := by have := pw_mono hm9; have h4 : pw 9 = 512 := rfl; omega
  have hpp := pw_pos m
  have hz := Lib.hid (fun k (hk : k < n) => (show 1 ≤ nth R k ∧ (nth R k).toNat < 65536 from by
    have := hF.line _ (nth_mem (show k < R.length by omega))
    omega))
  have hlo : Hid (lqTo R 1 = []) := Lib.hid (by
    rw [lqTo_succ]
    have : lq R 0 = false := by
      cases hq : lq R 0
      · rfl
      · obtain ⟨⟨x, hx, e⟩, _⟩ := lq_iff.1 hq
        have := (hF.line x hx).1
        omega
    rw [this]; rfl)
  have hls := Lib.hid (fun s => lqTo_succ R s)
  have hll : Hid (∀ s, (lNi (lqTo R s)).length ≤ s) := Lib.hid (fun s => by
    rw [lNi_len]
    unfold lqTo
    have := List.length_filter_le (lq R) (List.range s)
    rwa [List.length_range] at this)
  have hlq := Lib.hid (fun s => lq_to R s)
  have hi0 := Lib.hid (fun s => (show inTo R s 0 = false from rfl))
  have hl0 := Lib.hid (fun s => (show leTo R s 0 = true from rfl))
  have his := Lib.hid (fun s k => inTo_succ R s k)
  have hle := Lib.hid (fun s k => leTo_succ R s k)
  rw [hn] at hlq
  obtain ⟨i0, hi, hz0, hz1, hz2⟩ := info_parts infoInt'
  have G0 := Lib.hid hi
  have G1 := Lib.hid hz0
  have G2 := Lib.hid hz1
  have G3 := Lib.hid hz2
  have hn' := Lib.hid hn
  have hI := Lib.hid h
  have hn12 : n ≤ 12 := by have := hF.few; omega
  generalize hpm : pw m = pm at *
  clear hi hz0 hz1 hz2 hF h hn hpm
  go_enter Tryd.func29, Tryd.ntmps29
  go_wp2_with (go_at_call 31; refine RF.out.mono ?_; rintro e w1 ⟨rfl, hb1⟩)
  clear RF
  go_loopw [7, 8] (fun v i wr => ∃ s : Nat, 1 ≤ s ∧ s ≤ pm ∧ i = .int .i64 s ∧ wr.ownsRow w1.heap.size 3 1 v (lNi (lqTo R s)).length (lI (lNi (lqTo R s))) ∧ Below w1.heap.size w1 wr) (fun _ i _ => pm - (intOf i).toNat)
  case atStart => exact ⟨1, by omega, by omega, rfl, by rw [hlo.out]; exact World.ownsRow_nil _ _ _ _, Below.refl _ _⟩
  case round =>
    obtain ⟨s, hs1, hs, rfl, hown, C0⟩ := hrel
    by_cases hlt : s < pm
    · have hki : (s : Int) < (pm : Int) := by omega
      have hlss := Lib.hid (hls.out s)
      have hlqs := Lib.hid (hlq.out s)
      have hlls := Lib.hid (hll.out s)
      replace hown := Lib.hid hown
      go_wp2
      go_loopw [9, 10, 11] (fun f g i wr' => ∃ k : Nat, k ≤ n ∧ i = .int .i64 k ∧ f = .bool (inTo R s k) ∧ g = .bool (leTo R s k) ∧ wr' = wr) (fun _ _ i _ => n - (intOf i).toNat)
      case atStart => exact ⟨0, by omega, rfl, by rw [hi0.out], by rw [hl0.out], rfl⟩
      case round =>
        obtain ⟨k, hk, rfl, rfl, rfl, rfl⟩ := hrel
        by_cases hlk : k < n
        · have hki2 : (k : Int) < (n : Int) := by omega
          obtain ⟨hz1, hz2⟩ := hz.out k hlk
          have e1 := Lib.hid (his.out s k)
          have e2 := Lib.hid (hle.out s k)
          obtain ⟨b, off, rfl, hc⟩ := ints_at (hI.out.next (nextB hb1 C0)) (by rw [hn'.out]; omega)
          have x0 := hc k (by rw [hn'.out]; omega)
          obtain ⟨z, hzz⟩ : ∃ z : Nat, Hid ((nth R k).toNat = z) := ⟨_, Lib.hid rfl⟩
          have e : nth R k = (z : Int) := by have := hzz.out; omega
          rw [e] at x0
          rw [hzz.out] at e1 e2 hz2
          have hs5 : s < 65536 := by omega
          have an := i64_andNot_nat z s (by omega) (by omega)
          have be := beq_nat z s
          clear hc e hz1
          cases heq : z == s
          · rw [heq] at be e1 e2
            cases hin : inB z s
            · have hd : (((dif z s : Nat) : Int) != 0) = true := by
                rw [bne_iff_ne]
                intro h0
                have : dif z s = 0 := by omega
                rw [dif_zero, hin] at this
                cases this
              rw [hin] at e2
              generalize dif z s = dz at *
              cases hA : inTo R s k
              all_goals
                cases hB : leTo R s k
              all_goals
                rw [hA] at e1
                rw [hB] at e2
                have f1 := Lib.hid e1.out
                have f2 := Lib.hid e2.out
                go_wp2
                go_roundw
                case rel => exact ⟨k + 1, by omega, by go_num, by rw [f1.out]; rfl, by rw [f2.out]; rfl, by first | rfl | trivial⟩
                case measure => simp [intOf]; omega
            · have hd : (((dif z s : Nat) : Int) != 0) = false := by rw [dif_zero.2 hin]; rfl
              rw [hin] at e2
              generalize dif z s = dz at *
              cases hA : inTo R s k
              all_goals
                cases hB : leTo R s k
              all_goals
                rw [hA] at e1
                rw [hB] at e2
                have f1 := Lib.hid e1.out
                have f2 := Lib.hid e2.out
                go_wp2
                go_roundw
                case rel => exact ⟨k + 1, by omega, by go_num, by rw [f1.out]; rfl, by rw [f2.out]; rfl, by first | rfl | trivial⟩
                case measure => simp [intOf]; omega
          · rw [heq] at be e1 e2
            generalize dif z s = dz at *
            cases hA : inTo R s k
            all_goals
              cases hB : leTo R s k
            all_goals
              rw [hA] at e1
              rw [hB] at e2
              have f1 := Lib.hid e1.out
              have f2 := Lib.hid e2.out
              go_wp2
              go_roundw
              case rel => exact ⟨k + 1, by omega, by go_num, by rw [f1.out]; rfl, by rw [f2.out]; rfl, by first | rfl | trivial⟩
              case measure => simp [intOf]; omega
        · have hkm : k = n := by omega
          have hki2 : ¬ ((k : Int) < (n : Int)) := by omega
          rw [hkm]
          have hlq2 := hlqs.out
          cases hA : inTo R s n
          · rw [hA] at hlq2
            have hst2 := Lib.hid (show lNi (lqTo R (s + 1)) = lNi (lqTo R s) by rw [hlss.out, hlq2]; rfl)
            go_wp2
            go_roundw
            case rel => exact ⟨s + 1, by omega, by omega, by go_num, by rw [hst2.out]; exact hown.out, C0⟩
            case measure => simp [intOf]; omega
          · rw [hA] at hlq2
            cases hB : leTo R s n
            · rw [hB] at hlq2
              have hst2 := Lib.hid (show lNi (lqTo R (s + 1)) = lNi (lqTo R s) by rw [hlss.out, hlq2]; rfl)
              go_wp2
              go_roundw
              case rel => exact ⟨s + 1, by omega, by omega, by go_num, by rw [hst2.out]; exact hown.out, C0⟩
              case measure => simp [intOf]; omega
            · rw [hB] at hlq2
              have hst2 := Lib.hid (show lNi (lqTo R (s + 1)) = lNi (lqTo R s) ++ [(s : Int)] by rw [hlss.out, hlq2, ← lNi_snoc]; rfl)
              have hl9 := hlls.out
              have hown3 := hown.out
              clear hlq2 hlss hlqs hlls hown
              generalize hL : lNi (lqTo R s) = L at *
              generalize hL2 : lNi (lqTo R (s + 1)) = L2 at *
              have hs2 := Lib.hid (show lI L ++ [.int .i64 (s : Int)] = lI (L ++ [(s : Int)]) by simp [lI])
              generalize hql : L.length = ql at *
              have hsz := C0.size
              go_wp2_with (at_builtin; refine wpList_append_own _ rfl _ _ 22 rfl w1.heap.size 3 i0 (.int .i64 0) 1 8 Tryd.underlying22 G0.out G1.out G2.out G3.out rfl (by decide) _ _ _ rfl (hown3.alloc _) ⟨_, 0, none⟩ 1 1 [.int .i64 (s : Int)] rfl rfl (cell_one_new _ _ _) (by simp [Value.oneCell']) (by unfold maxLen; omega) (by omega) (by simp; omega) ?_; intro v' w5 hown5 hgrow _; rw [hs2.out] at hown5)
              have hgl := hown3.lt
              have B5 : Below w1.heap.size w1 w5 := (C0.alloc hsz (.cells #[.int .i64 (s : Int)] 3)).grown hgrow (by simp; omega) (fun q' hq' => (hgl q' hq').1)
              go_roundw
              case rel => exact ⟨s + 1, by omega, by omega, by go_num, by rw [hL2, hst2.out, List.length_append, hql]; exact hown5, B5⟩
              case measure => simp [intOf]; omega
    · have hkm : s = pm := by omega
      have hki : ¬ ((s : Int) < (pm : Int)) := by omega
      rw [hkm] at hown
      obtain ⟨a9, c9, rfl, _, hI9⟩ := own_intsA hown rfl
      replace hI9 := Lib.hid hI9
      clear hown
      go_wp2
      go_ret2
      exact ⟨a9, c9, rfl, hI9.out, nextB hb1 C0⟩
section
variable (x : Int) (a : Option Addr) (n c : Nat) (R : List Int) (w : World)
theorem refGuards_no (h : Ints w a R) (hn : R.length = n) {e : Nat} (he : fE x R = e) (h0 : e ≠ 0) : Calls Tryd.prog 25 #[.int .i64 x, .slice a n c] w (Ret (.tuple #[.slice none 0 0, .int .i64 (e : Nat)]) w) := by
  have RF := Lib.hid (refField_any x a n c R w h hn)
  rw [he] at RF
  have he4 : e < 4 := by rw [← he]; exact fE_lt x R
  have d1 : ((e : Int) != 0) = true := by rw [bne_iff_ne]; omega
  clear h he
  go_enter Tryd.func25, Tryd.ntmps25
  go_wp2_with (go_at_call 31; refine RF.out.mono ?_; rintro e w1 ⟨rfl, hb1⟩)
  go_ret2
  exact Ret.mk rfl hb1
theorem refLeast_no (h : Ints w a R) (hn : R.length = n) {e : Nat} (he : fE x R = e) (h0 : e ≠ 0) : Calls Tryd.prog 29 #[.int .i64 x, .slice a n c] w (Ret (.tuple #[.slice none 0 0, .int .i64 (e : Nat)]) w) := by
  have RF := Lib.hid (refField_any x a n c R w h hn)
  rw [he] at RF
  have he4 : e < 4 := by rw [← he]; exact fE_lt x R
  have d1 : ((e : Int) != 0) = true := by rw [bne_iff_ne]; omega
  clear h he
  go_enter Tryd.func29, Tryd.ntmps29
  go_wp2_with (go_at_call 31; refine RF.out.mono ?_; rintro e w1 ⟨rfl, hb1⟩)
  go_ret2
  exact Ret.mk rfl hb1
theorem Guards_no (h : Ints w a R) (hn : R.length = n) {e : Nat} (he : fE x R = e) (h0 : e ≠ 0) : Calls Tryd.prog 24 #[.int .i64 x, .slice a n c] w (Ret (.tuple #[.slice none 0 0, .int .i64 (e : Nat)]) w) := by
  have F := Lib.hid (nf_any x a n c R w h hn)
  rw [he, if_neg h0] at F
  have he4 : e < 4 := by rw [← he]; exact fE_lt x R
  have d1 : ((e : Int) != 0) = true := by rw [bne_iff_ne]; omega
  clear h he
  go_enter Tryd.func24, Tryd.ntmps24
  go_wp2_with (go_at_call 51; refine F.out.mono ?_; rintro e w1 ⟨rfl, hb1⟩)
  go_ret2
  exact Ret.mk rfl (nextB hb1 (b1 _ _))
theorem Least_no (h : Ints w a R) (hn : R.length = n) {e : Nat} (he : fE x R = e) (h0 : e ≠ 0) : Calls Tryd.prog 28 #[.int .i64 x, .slice a n c] w (Ret (.tuple #[.slice none 0 0, .int .i64 (e : Nat)]) w) := by
  have F := Lib.hid (nf_any x a n c R w h hn)
  rw [he, if_neg h0] at F
  have he4 : e < 4 := by rw [← he]; exact fE_lt x R
  have d1 : ((e : Int) != 0) = true := by rw [bne_iff_ne]; omega
  clear h he
  go_enter Tryd.func28, Tryd.ntmps28
  go_wp2_with (go_at_call 51; refine F.out.mono ?_; rintro e w1 ⟨rfl, hb1⟩)
  go_ret2
  exact Ret.mk rfl (nextB hb1 (b1 _ _))
end
theorem Guards_yes (m : Nat) (a : Option Addr) (n c : Nat) (R : List Int) (w : World) (h : Ints w a R) (hn : R.length = n) (hF : FieldP m R) (hT : Tab w) :
    Calls Tryd.prog 24 #[.int .i64 (m : Nat), .slice a n c] w (NewIE (lNi (gdL m R)) w) :=
  (Guards_any m a n c R w h hn hF hT).mono fun e w' hh => by
    obtain ⟨g, cap, rfl, hc, hb⟩ := hh
    refine ⟨some ⟨g, 0, none⟩, cap, by rw [lNi_len], .inr ⟨g, 0, rfl, fun i hi => ?_⟩, hb⟩
    rw [lNi_len] at hi
    rw [lNi_nth hi]
    exact hc i hi
theorem strE_fewK (n : Nat) : (decide (n ≤ 40) && decide (strE.size ≤ 40) && decide (strE.size ≤ 40)) = decide (n ≤ 40) := by
  have : strE.size = 0 := rfl
  rw [this]; simp
theorem gd_short {m : Nat} {R : List Int} (hF : FieldP m R) : (lNi (gdL m R)).length ≤ 9 := by
  rw [lNi_len, gd_kpK]
  have := kpF_le (wB m R 0 0 1) (List.range m) m
  have := hF.le
  omega
theorem lq_short {m : Nat} {R : List Int} (hF : FieldP m R) : (lNi (lqTo R (pw m))).length ≤ 512 := by
  rw [lNi_len]
  unfold lqTo
  have := List.length_filter_le (lq R) (List.range (pw m))
  rw [List.length_range] at this
  have h2 := pw_mono hF.le
  have h4 : pw 9 = 512 := rfl
  omega
set_option maxRecDepth 100000 in
set_option maxHeartbeats 8000000 in
theorem guardsLaw_any (x : Int) (a : Option Addr) (n c : Nat) (R : List Int) (w : World) (h : Ints w a R) (hn : R.length = n) (_hnc : n ≤ c) (_hnil : a = none → c = 0) (hT : Tab w) :
    Calls Tryd.prog 5 #[.int .i64 x, .slice a n c] w (Ret (.bool true) w) := by
  have hAl := Lib.hid (fun W hW => alive_any W hW)
  have hFw := fun W => few_any n c a strE strE W
  rw [strE_fewK] at hFw
  unfold strE at hFw
  replace hT := Lib.hid hT
  by_cases q1 : n ≤ 40
  · rw [decide_eq_true q1] at hFw
    replace hFw := Lib.hid hFw
    have hI := Lib.hid h
    have hn' := Lib.hid hn
    have B0 : Below w.heap.size w w := Below.refl _ _
    have PN := Lib.hid (fun W hW hTW => Needs_any x a n c R W hW hn hTW)
    have RN := Lib.hid (fun W hW => refNeeds_any x a n c R W hW hn)
    have SA := Lib.hid (fun a1 n1 c1 a2 c2 (L : List Int) W h1 h2 (hl : L.length = n1) (h9 : n1 ≤ 1000000) => same_any a1 a2 n1 n1 c1 c2 L L W h1 h2 hl hl h9 h9)
    generalize ndI x R = i1 at *
    generalize ndE x R = i2 at *
    obtain ⟨e, he⟩ : ∃ e, fE x R = e := ⟨_, rfl⟩
    have he4 : e < 4 := by rw [← he]; exact fE_lt x R
    by_cases h0 : e = 0
    · subst h0
      obtain ⟨hx, hF⟩ := fE_ok he
      obtain ⟨m, rfl⟩ : ∃ m : Nat, x = (m : Int) := ⟨x.toNat, hx⟩
      rw [Int.toNat_natCast] at hF
      have PG := Lib.hid (fun W hW hTW => Guards_yes m a n c R W hW hn hF hTW)
      have RG := Lib.hid (fun W hW => refGuards_any m a n c R W hF hW hn)
      have PL := Lib.hid (fun W hW => Least_ok m a n c R W hF hW hn)
      have RL := Lib.hid (fun W hW => refLeast_any m a n c R W hF hW hn)
      have g9 := gd_short hF
      have l9 := lq_short hF
      unfold NewIE at PG RG PL RL
      generalize lNi (gdL m R) = GL at *
      generalize lNi (lqTo R (pw m)) = LL at *
      generalize hgl : GL.length = gl at *
      generalize hll : LL.length = ll at *
      have SG := Lib.hid (fun a1 c1 a2 c2 W h1 h2 => SA.out a1 gl c1 a2 c2 GL W h1 h2 hgl (by omega))
      have SL := Lib.hid (fun a1 c1 a2 c2 W h1 h2 => SA.out a1 ll c1 a2 c2 LL W h1 h2 hll (by omega))
      rw [decide_eq_true (rfl : GL = GL)] at SG
      rw [decide_eq_true (rfl : LL = LL)] at SL
      replace hgl := Lib.hid hgl
      replace hll := Lib.hid hll
      clear h hn he hF SA g9 l9 hx
      go_enter Tryd.func5, Tryd.ntmps5
      go_wp2_with (go_at_call 10; refine (hFw.out _).mono ?_; rintro e w1 ⟨rfl, rfl⟩)
      refine (PG.out _ (hI.out.next B0) (hT.out.next B0)).mono ?_
      rintro e w2 ⟨a2, c2, rfl, hI2, hb2⟩
      dsimp only
      have B2 := nextB B0 hb2
      clear hb2 PG
      go_wp2_with fail
      refine (RG.out _ (hI.out.next B2)).mono ?_
      rintro e w3 ⟨a3, c3, rfl, hI3, hb3⟩
      dsimp only
      have B3 := nextB B2 hb3
      have hJ2 := hI2.next hb3
      clear hb3 RG B2 hI2
      go_wp2_with fail
      refine (SG.out a2 c2 a3 c3 _ hJ2 hI3).mono ?_
      rintro e w4 ⟨rfl, hb4⟩
      dsimp only
      have B4 := nextB B3 hb4
      clear hb4 SG B3 hJ2 hI3
      go_wp2_with fail
      refine (PN.out _ (hI.out.next B4) (hT.out.next B4)).mono ?_
      rintro e w5 ⟨rfl, hb5⟩
      dsimp only
      have B5 := nextB B4 hb5
      clear hb5 PN B4
      go_wp2_with fail
      refine (RN.out _ (hI.out.next B5)).mono ?_
      rintro e w6 ⟨rfl, hb6⟩
      dsimp only
      have B6 := nextB B5 hb6
      clear hb6 RN B5
      go_wp2_with fail
      refine (PL.out _ (hI.out.next B6)).mono ?_
      rintro e w7 ⟨a7, c7, rfl, hI7, hb7⟩
      dsimp only
      have B7 := nextB B6 hb7
      clear hb7 PL B6
      go_wp2_with fail
      refine (RL.out _ (hI.out.next B7)).mono ?_
      rintro e w8 ⟨a8, c8, rfl, hI8, hb8⟩
      dsimp only
      have B8 := nextB B7 hb8
      have hJ7 := hI7.next hb8
      clear hb8 RL B7 hI7
      go_wp2_with fail
      refine (SL.out a7 c7 a8 c8 _ hJ7 hI8).mono ?_
      rintro e w9 ⟨rfl, hb9⟩
      dsimp only
      have B9 := nextB B8 hb9
      clear hb9 SL B8 hJ7 hI8
      go_wp2_with (go_at_call 11; refine (hAl.out _ (hT.out.next B9)).mono ?_; rintro e w10 ⟨rfl, hb10⟩)
      go_ret
      exact Ret.mk rfl (nextB B9 hb10)
    · have PG := Lib.hid (fun W hW => Guards_no x a n c R W hW hn he h0)
      have RG := Lib.hid (fun W hW => refGuards_no x a n c R W hW hn he h0)
      have PL := Lib.hid (fun W hW => Least_no x a n c R W hW hn he h0)
      have RL := Lib.hid (fun W hW => refLeast_no x a n c R W hW hn he h0)
      have SG := Lib.hid (fun W => SA.out none 0 0 none 0 [] W (.inl rfl) (.inl rfl) rfl (by omega))
      rw [decide_eq_true (rfl : ([] : List Int) = [])] at SG
      clear h hn he SA
      go_enter Tryd.func5, Tryd.ntmps5
      go_wp2_with (go_at_call 10; refine (hFw.out _).mono ?_; rintro e w1 ⟨rfl, rfl⟩)
      refine (PG.out _ (hI.out.next B0)).mono ?_
      rintro e2 w2 ⟨rfl, hb2⟩
      dsimp only
      have B2 := nextB B0 hb2
      clear hb2 PG
      go_wp2_with fail
      refine (RG.out _ (hI.out.next B2)).mono ?_
      rintro e2 w3 ⟨rfl, hb3⟩
      dsimp only
      have B3 := nextB B2 hb3
      clear hb3 RG B2
      go_wp2_with fail
      refine (SG.out _).mono ?_
      rintro e2 w4 ⟨rfl, hb4⟩
      dsimp only
      have B4 := nextB B3 hb4
      clear hb4 B3
      go_wp2_with fail
      refine (PN.out _ (hI.out.next B4) (hT.out.next B4)).mono ?_
      rintro e2 w5 ⟨rfl, hb5⟩
      dsimp only
      have B5 := nextB B4 hb5
      clear hb5 PN B4
      go_wp2_with fail
      refine (RN.out _ (hI.out.next B5)).mono ?_
      rintro e2 w6 ⟨rfl, hb6⟩
      dsimp only
      have B6 := nextB B5 hb6
      clear hb6 RN B5
      go_wp2_with fail
      refine (PL.out _ (hI.out.next B6)).mono ?_
      rintro e2 w7 ⟨rfl, hb7⟩
      dsimp only
      have B7 := nextB B6 hb7
      clear hb7 PL B6
      go_wp2_with fail
      refine (RL.out _ (hI.out.next B7)).mono ?_
      rintro e2 w8 ⟨rfl, hb8⟩
      dsimp only
      have B8 := nextB B7 hb8
      clear hb8 RL B7
      go_wp2_with fail
      refine (SG.out _).mono ?_
      rintro e2 w9 ⟨rfl, hb9⟩
      dsimp only
      have B9 := nextB B8 hb9
      clear hb9 SG B8
      go_wp2_with (go_at_call 11; refine (hAl.out _ (hT.out.next B9)).mono ?_; rintro e2 w10 ⟨rfl, hb10⟩)
      go_ret
      exact Ret.mk rfl (nextB B9 hb10)
  · rw [decide_eq_false q1] at hFw
    replace hFw := Lib.hid hFw
    clear h hn
    go_enter Tryd.func5, Tryd.ntmps5
    go_wp2_with (first
      | (go_at_call 10; refine (hFw.out _).mono ?_; rintro e w1 ⟨rfl, rfl⟩)
      | (go_at_call 11; refine (hAl.out _ hT.out).mono ?_; rintro e w1 ⟨rfl, hb1⟩))
    go_ret
    exact Ret.mk rfl hb1
end Go.Proofs.YtbdhceolchhnjaaDoor
