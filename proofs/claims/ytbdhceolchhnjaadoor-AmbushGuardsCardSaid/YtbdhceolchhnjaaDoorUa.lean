/- Layer 4, by the program: is it a pairing? -/
import Derived.Test.YtbdhceolchhnjaaDoorAx
namespace Go.Proofs.YtbdhceolchhnjaaDoor
open Go Go.RowKit

theorem good_ok {m : Nat} (hm : m ≤ 9) {ps : List (Int × Int)} (h : goodP m (-1) 0 ps = true) : PairsOk ps := fun p hp => by
  obtain ⟨a, b, rfl, h1, h2, _⟩ := fit_mem (all_av.1 h) p hp
  refine ⟨?_, ?_, ?_, ?_⟩ <;> simp only <;> omega
theorem two_zero (u a b : Nat) : (u &&& (pw a ||| pw b) = 0) ↔ (u.testBit a = false ∧ u.testBit b = false) := by
  rw [Nat.and_comm, and_zero]
  constructor
  · intro h
    have e := fun i => or2_test 0 a b i
    simp only [Nat.zero_or, Nat.zero_testBit, Bool.false_or] at e
    exact ⟨h a (by rw [e]; simp), h b (by rw [e]; simp)⟩
  · rintro ⟨h1, h2⟩ i hi
    have e := or2_test 0 a b i
    simp only [Nat.zero_or, Nat.zero_testBit, Bool.false_or] at e
    rw [e] at hi
    simp only [Bool.or_eq_true, decide_eq_true_eq] at hi
    rcases hi with rfl | rfl
    · exact h1
    · exact h2
theorem drop_pth {ps : List (Int × Int)} {k : Nat} (h : k < ps.length) : ps.drop k = pth ps k :: ps.drop (k + 1) := by
  rw [List.drop_eq_getElem_cons h]; simp [pth, h]
set_option maxRecDepth 100000 in
set_option maxHeartbeats 8000000 in
theorem isPA_any (m : Nat) (a : Option Addr) (n c : Nat) (R : List Int) (pa : Option Addr) (l pc : Nat) (ps : List (Int × Int)) (w : World) (h : Ints w a R) (hn : R.length = n) (hF : FieldP m R) (hp : Prs w pa ps) (hk : ps.length = l) (hk9 : l ≤ 1000) :
    Calls Tryd.prog 54 #[fV m a n c, .slice pa l pc] w (Ret (.bool (isP m R ps)) w) := by
  have hm := hF.le
  have GU := Lib.hid (fun W hW hPW hg => guarded_any m a n c R pa l pc ps W hW hn (by have := hF.few; omega) hF.sets hPW hk hk9 (good_ok hm hg))
  have KN := Lib.hid (fun x W => knowsA_any m a n c x W)
  have SO := Lib.hid (fun i k hi hk W => setOf_any i k hi hk W)
  have hI := Lib.hid h
  have hPs := Lib.hid hp
  have hdr := Lib.hid (fun k (h : k < l) => drop_pth (ps := ps) (k := k) (by omega))
  have hend : Hid (ps.drop l = []) := Lib.hid (List.drop_eq_nil_of_le (by omega))
  obtain ⟨r, hr⟩ : ∃ r, Hid (isP m R ps = r) := ⟨_, Lib.hid rfl⟩
  rw [hr.out]
  obtain ⟨G, hG⟩ : ∃ G, Hid (goodP m (-1) 0 ps = G) := ⟨_, Lib.hid rfl⟩
  have hres : Hid (G = false → r = false) := Lib.hid (fun h => by rw [← hr.out]; unfold isP; rw [hG.out, h]; rfl)
  have hres2 : Hid (G = true → guardB R ps = r) := Lib.hid (fun h => by rw [← hr.out]; unfold isP; rw [hG.out, h]; rfl)
  rw [hG.out] at GU
  generalize guardB R ps = gu at *
  have hb := b1 w (.cells #[.int .i64 (m : Nat), .slice a n c] 60)
  have hA := Blk.new w 60 #[.int .i64 (m : Nat), .slice a n c]
  clear h hn hp hk hF
  go_enter Tryd.func54, Tryd.ntmps54
  go_wp2
  generalize w.alloc (.cells #[.int .i64 (m : Nat), .slice a n c] 60) = w1 at *
  go_loopw [5, 6, 11] (fun vb vu i wr => ∃ (k u : Nat) (b : Int), k ≤ l ∧ i = .int .i64 k ∧ vb = .int .i64 b ∧ vu = .int .i64 (u : Nat) ∧ u < 512 ∧ -1 ≤ b ∧ G = goodP m b u (ps.drop k) ∧ Below w1.heap.size w1 wr) (fun _ _ i _ => l - (intOf i).toNat)
  case atStart => exact ⟨0, 0, -1, by omega, rfl, rfl, rfl, by omega, by omega, hG.out.symm, Below.refl _ _⟩
  case round =>
    obtain ⟨k, u, b, hkl, rfl, rfl, rfl, hu, hb1, hgd, B0⟩ := hrel
    have hA0 := hA.ext B0
    have bw := nextB hb B0
    by_cases hlt : k < l
    · have hki : (k : Int) < (l : Int) := by omega
      obtain ⟨pb, off, rfl, hcc⟩ : ∃ b off, pa = some ⟨b, off, none⟩ ∧ ∀ i, i < l → wr.cell? ⟨b, off + i * 2, none⟩ = some (.int .i64 (pth ps i).1) ∧ wr.cell? ⟨b, off + i * 2 + 1, none⟩ = some (.int .i64 (pth ps i).2) := by
        rcases hPs.out.next bw with h | ⟨b, off, e, h⟩
        · exfalso
          have := hdr.out k hlt
          rw [List.drop_eq_nil_of_le (by omega)] at this
          cases this
        · exact ⟨b, off, e, fun i hi => h i (by
            apply Classical.byContradiction
            intro hh
            have := hdr.out i hi
            rw [List.drop_eq_nil_of_le (by omega)] at this
            cases this)⟩
      obtain ⟨x0, x1⟩ := hcc k hlt
      clear hcc
      rw [hdr.out k hlt] at hgd
      unfold goodP at hgd
      generalize (pth ps k).1 = A at *
      generalize (pth ps k).2 = B at *
      by_cases c1 : A ≤ b
      · have hr2 := hres.out (by rw [hgd, decide_eq_false (by omega)]; rfl)
        subst hr2
        replace hgd := Lib.hid hgd
        replace B0 := Lib.hid B0
        replace bw := Lib.hid bw
        go_wp2
        go_ret
        exact Ret.mk rfl (nextB bw.out (b1 _ _))
      by_cases c2 : B ≤ A
      · have hr2 := hres.out (by rw [hgd, decide_eq_true (by omega), decide_eq_false (show ¬ A < B by omega)]; rfl)
        subst hr2
        replace hgd := Lib.hid hgd
        replace B0 := Lib.hid B0
        replace bw := Lib.hid bw
        go_wp2
        go_ret
        exact Ret.mk rfl (nextB bw.out (b1 _ _))
      have hbw2 := Lib.hid (nextB bw (b1 wr (.cells #[.int .i64 A, .int .i64 B] 58)))
      have hP := Blk.new wr 58 #[.int .i64 A, .int .i64 B]
      have hA1 := hA0.alloc (.cells #[.int .i64 A, .int .i64 B] 58)
      have q0 := hP.c 0 rfl
      have q1 := hP.c 1 rfl
      have f0 := hA1.c 0 rfl
      have f1 := hA1.c 1 rfl
      have K1 := KN.out B
      by_cases c3 : (m : Int) ≤ B
      · have hr2 := hres.out (by rw [hgd, decide_eq_true (by omega), decide_eq_true (by omega), decide_eq_false (show ¬ B < m by omega)]; rfl)
        subst hr2
        rw [decide_eq_true (show (0 : Int) ≤ B by omega), decide_eq_false (show ¬ B < (m : Int) by omega)] at K1
        replace K1 := Lib.hid K1
        replace hgd := Lib.hid hgd
        replace B0 := Lib.hid B0
        replace bw := Lib.hid bw
        replace hP := Lib.hid hP
        replace hA1 := Lib.hid hA1
        go_wp2_with (go_at_call 56; refine (K1.out _).mono ?_; rintro e w5 ⟨rfl, hb5⟩)
        go_ret
        exact Ret.mk rfl (nextB hbw2.out hb5)
      · obtain ⟨i, rfl⟩ : ∃ i : Nat, A = i := ⟨A.toNat, by omega⟩
        obtain ⟨j, rfl⟩ : ∃ j : Nat, B = j := ⟨B.toNat, by omega⟩
        rw [decide_eq_true (show (0 : Int) ≤ (j : Int) by omega), decide_eq_true (show (j : Int) < (m : Int) by omega)] at K1
        rw [decide_eq_true (by omega), decide_eq_true (by omega), decide_eq_true (by omega)] at hgd
        simp only [Int.toNat_natCast, Bool.true_and] at hgd
        have S1 := Lib.hid (SO.out i j (by omega) (by omega))
        have p1 : pw i < 512 := by have := pw_mono (show i ≤ 8 by omega); have h4 : pw 8 = 256 := rfl; omega
        have p2 : pw j < 512 := by have := pw_mono (show j ≤ 8 by omega); have h4 : pw 8 = 256 := rfl; omega
        have p3 : pw i ||| pw j < 512 := Nat.or_lt_two_pow (n := 9) p1 p2
        have an := i64_and_nat u (pw i ||| pw j) (by omega) (by omega)
        have orr := i64_or_nat u (pw i ||| pw j) (by omega) (by omega)
        have p4 : u ||| (pw i ||| pw j) < 512 := Nat.or_lt_two_pow (n := 9) hu p3
        have tz := two_zero u i j
        replace K1 := Lib.hid K1
        replace B0 := Lib.hid B0
        replace bw := Lib.hid bw
        replace hP := Lib.hid hP
        replace hA1 := Lib.hid hA1
        rw [show u ||| pw i ||| pw j = u ||| (pw i ||| pw j) from Nat.or_assoc _ _ _] at hgd
        have q1' : ¬ ((i : Int) ≤ b) := c1
        have q2' : ¬ ((j : Int) ≤ (i : Int)) := c2
        by_cases c4 : u &&& (pw i ||| pw j) = 0
        · obtain ⟨t1, t2⟩ := tz.1 c4
          rw [t1, t2] at hgd
          simp only [Bool.not_false, Bool.true_and] at hgd
          rw [c4] at an
          have an0 : bits .and .i64 (u : Int) ((pw i ||| pw j : Nat) : Int) = 0 := an
          replace hgd := Lib.hid hgd
          generalize u ||| (pw i ||| pw j) = u2 at *
          generalize pw i ||| pw j = s at *
          clear an tz p1 p2 t1 t2 c4
          go_wp2_with (first
            | (go_at_call 56; refine (K1.out _).mono ?_; rintro e w5 ⟨rfl, hb5⟩; replace q0 := cellB hb5 q0; replace q1 := cellB hb5 q1; replace f0 := cellB hb5 f0; replace f1 := cellB hb5 f1)
            | (go_at_call 80; refine (S1.out _).mono ?_; rintro e w6 ⟨rfl, hb6⟩; replace q0 := cellB hb6 q0; replace q1 := cellB hb6 q1; replace f0 := cellB hb6 f0; replace f1 := cellB hb6 f1; replace hb5 := nextB hb5 hb6))
          go_roundw
          case rel => exact ⟨k + 1, u2, (i : Int), by omega, by go_num, rfl, rfl, p4, by omega, hgd.out, nextB (nextB B0.out (b1 _ _)) hb5⟩
          case measure => simp [intOf]; omega
        · have hr2 := hres.out (by
            rw [hgd]
            by_cases t1 : u.testBit i = false
            · have t2 : u.testBit j = true := by
                cases hh : u.testBit j
                · exact absurd (tz.2 ⟨t1, hh⟩) c4
                · rfl
              rw [t2]; simp
            · have t2 : u.testBit i = true := by simpa using t1
              rw [t2]; simp)
          subst hr2
          have an1 : ((u &&& (pw i ||| pw j) : Nat) : Int) ≠ 0 := by omega
          have an2 : (((u &&& (pw i ||| pw j) : Nat) : Int) == 0) = false := by rw [beq_eq_false_iff_ne]; exact an1
          replace hgd := Lib.hid hgd
          generalize u &&& (pw i ||| pw j) = z at *
          generalize pw i ||| pw j = s at *
          clear tz p1 p2 p4 orr
          go_wp2_with (first
            | (go_at_call 56; refine (K1.out _).mono ?_; rintro e w5 ⟨rfl, hb5⟩; replace q0 := cellB hb5 q0; replace q1 := cellB hb5 q1; replace f0 := cellB hb5 f0; replace f1 := cellB hb5 f1)
            | (go_at_call 80; refine (S1.out _).mono ?_; rintro e w6 ⟨rfl, hb6⟩; replace hb5 := nextB hb5 hb6))
          go_ret
          exact Ret.mk rfl (nextB hbw2.out hb5)
    · obtain rfl : k = l := by omega
      rw [hend.out] at hgd
      have hgt : G = true := hgd
      have G1 := Lib.hid (fun W h1 h2 => GU.out W h1 h2 hgt)
      obtain rfl := hres2.out hgt
      have f0 := hA0.c 0 rfl
      have f1 := hA0.c 1 rfl
      clear hgd
      replace B0 := Lib.hid B0
      replace bw := Lib.hid bw
      replace hA0 := Lib.hid hA0
      go_wp2_with (go_at_call 81; refine (G1.out _ (hI.out.next bw.out) (hPs.out.next bw.out)).mono ?_; rintro e w5 ⟨rfl, hb5⟩)
      go_ret
      exact Ret.mk rfl (nextB bw.out hb5)
end Go.Proofs.YtbdhceolchhnjaaDoor
