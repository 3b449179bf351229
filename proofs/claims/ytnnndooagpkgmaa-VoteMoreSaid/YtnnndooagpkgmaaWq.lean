/- Layer 3, by the specification: Power. -/
import Derived.Test.YtnnndooagpkgmaaWp
import Derived.Test.YtnnndooagpkgmaaLw
namespace Go.Proofs.Ytnnndooagpkgmaa
open Go Go.RowKit

/-- The cells of k ratios. -/
def cellsR (p : Nat → Int × Int) (k : Nat) : List Value := (List.range k).flatMap fun i => [.int .i64 (p i).1, .int .i64 (p i).2]
theorem cellsR_succ (p : Nat → Int × Int) (k : Nat) : cellsR p (k + 1) = cellsR p k ++ [.int .i64 (p k).1, .int .i64 (p k).2] := by simp [cellsR, List.range_succ]
theorem cellsR_length (p : Nat → Int × Int) (k : Nat) : (cellsR p k).length = k * 2 := by
  induction k with
  | zero => rfl
  | succ k ih => rw [cellsR_succ, List.length_append, ih]; simp; omega
theorem cellsR_at (p : Nat → Int × Int) (k i : Nat) (h : i < k) : (cellsR p k)[i * 2]? = some (.int .i64 (p i).1) ∧ (cellsR p k)[i * 2 + 1]? = some (.int .i64 (p i).2) := by
  induction k with
  | zero => omega
  | succ k ih =>
    rw [cellsR_succ]
    by_cases hik : i < k
    · obtain ⟨h1, h2⟩ := ih hik
      have hl := cellsR_length p k
      rw [List.getElem?_append_left (by omega), List.getElem?_append_left (by omega)]
      exact ⟨h1, h2⟩
    · obtain rfl : i = k := by omega
      have hl := cellsR_length p i
      rw [List.getElem?_append_right (by omega), List.getElem?_append_right (by omega), hl]
      exact ⟨by simp, by rw [show i * 2 + 1 - i * 2 = 1 by omega]; rfl⟩
theorem own_rats {w : World} {base n : Nat} {v : Value} {p : Nat → Int × Int} {e : TypeId} (h : w.ownsRow base e 2 v n (cellsR p n)) : ∃ a c, v = .slice a n c ∧ n ≤ c ∧ Rats w a p n := by
  have h0 := h
  rcases h.2 with ⟨rfl, h2⟩ | ⟨g, cap, cur, rfl, hg, hh, hcap, r⟩
  · exact ⟨none, 0, by rw [h2], by omega, .inl h2⟩
  · refine ⟨some ⟨g, 0, none⟩, cap, rfl, hcap, .inr ⟨g, 0, rfl, fun i hi => ?_⟩⟩
    obtain ⟨c1, c2⟩ := cellsR_at p n i hi
    rw [Nat.zero_add, h0.cellAt _ (by omega), h0.cellAt _ (by omega)]
    exact ⟨c1, c2⟩
theorem cellR_new (w : World) (a b : Int) (t : TypeId) : ∀ j u, [Value.int .i64 a, .int .i64 b][j]? = some u → (w.alloc (.cells #[.int .i64 a, .int .i64 b] t)).cell? (Addr.add ⟨w.heap.size, 0, none⟩ j) = some u := by
  have h := Blk.new w t #[.int .i64 a, .int .i64 b]
  intro j u hj
  match j, hj with
  | 0, hj => cases hj; simp [Addr.add]
  | 1, hj => cases hj; simp [Addr.add]
  | j + 2, hj => simp at hj
theorem cnt_one_less {p : Nat → Bool} {e : Nat} (h : p e = false) (k : Nat) : cnt p k + (if e < k then 1 else 0) ≤ k := by
  induction k with
  | zero => simp [cnt]
  | succ k ih =>
    rw [cnt]
    by_cases he : e = k
    · subst he
      rw [h]
      have := cnt_le p e
      simp
      omega
    · by_cases h1 : e < k
      · rw [if_pos h1] at ih
        rw [if_pos (show e < k + 1 by omega)]
        split <;> omega
      · rw [if_neg h1] at ih
        rw [if_neg (show ¬ e < k + 1 by omega)]
        split <;> omega
/-- In how many orders a set comes before a drover, and the others behind. -/
def ordT (f : Nat → Bool) (n e s : Nat) : Nat := if turnB f e s then fac (siz s n) * fac (n - 1 - siz s n) else 0
def manyO (f : Nat → Bool) (n e : Nat) : Nat := sumTo (ordT f n e) (pw n)
def powT (f : Nat → Bool) (n e : Nat) : Int × Int := (((manyO f n e / Nat.gcd (manyO f n e) (fac n) : Nat) : Int), ((fac n / Nat.gcd (manyO f n e) (fac n) : Nat) : Int))
theorem add_fit (a b : Nat) (ha : a ≤ 1000000000000) (hb : b ≤ 1625702400) : IntKind.i64.wrap ((a : Int) + (b : Int)) = ((a + b : Nat) : Int) := by
  rw [IntWalk.i64_in _ (by omega)]; omega
theorem siz_le (s n : Nat) : siz s n ≤ n := cnt_le _ _
theorem ordT_le (f : Nat → Bool) (n e s : Nat) (hn : n ≤ 8) : ordT f n e s ≤ 1625702400 := by
  unfold ordT
  split
  · have h1 := fac_le (k := siz s n) (by have := siz_le s n; omega)
    have h2 := fac_le (k := n - 1 - siz s n) (by omega)
    exact Nat.le_trans (Nat.mul_le_mul h1 h2) (by decide)
  · exact Nat.zero_le _
theorem refPower_no (q : Int) (a : Option Addr) (n c : Nat) (ws : List Int) (w : World) (h : Ints w a ws) (hl : ws.length = n) (hn : n ≤ 30) (hB : ¬ BodyP q ws) :
    Calls Try.prog 25 #[bodyV q a n c] w (Ret (errV (.slice none 0 0)) w) := by
  have K := Lib.hid (fun W hW => refIsBody_any q a n c ws W hW hl (by omega))
  rw [decide_eq_false hB] at K
  have h := Lib.hid h
  clear hl hB
  go_enter Try.func25, Try.ntmps25
  go_wp2_with (go_at_call 41; refine (K.out _ (h.out.next (b1 _ _))).mono ?_; rintro e w1 ⟨rfl, hb1⟩)
  go_ret2
  exact Ret.mk rfl (nextB (b1 _ _) hb1)
set_option maxRecDepth 100000 in
set_option maxHeartbeats 8000000 in
theorem refPower_yes (q : Int) (a : Option Addr) (n c : Nat) (ws : List Int) (w : World) (h : Ints w a ws) (hl : ws.length = n) (hB : BodyP q ws) :
    Calls Try.prog 25 #[bodyV q a n c] w (GotRat (powT (winB q ws) n) n w) := by
  obtain ⟨i0, hi, hz0, hz1, hz2⟩ := info_parts infoRatio
  have G0 := Lib.hid hi
  have G1 := Lib.hid hz0
  have G2 := Lib.hid hz1
  have G3 := Lib.hid hz2
  clear hi hz0 hz1 hz2
  have h8 : n ≤ 8 := by have := hB.2.1; omega
  have hp8 : pw n ≤ 256 := by have := pw_mono h8; simpa [pw] using this
  have hp1 : 1 ≤ pw n := pw_pos n
  have K := Lib.hid (fun W hW => refIsBody_any q a n c ws W hW hl (by omega))
  rw [decide_eq_true hB] at K
  have V := Lib.hid (fun W hW s (hs : s < 65536) => refwins_any q a n c s ws W hW hl h8 hB.2.2.1 hs)
  have sh := wrap_shl (k := n) (by omega)
  have hpl := Lib.hid (fun d (hd : d < n) => (show pw d < pw n from pw_lt hd))
  have SZ := Lib.hid (fun s W (hs : s < pw n) => refSize_any n s W h8 hs)
  have FA := Lib.hid (fun k W (hk : k ≤ 8) => refFactorial_any k W hk)
  have hfp := fac_pos n
  have hfl := fac_le h8
  have htl := Lib.hid (fun e s => ordT_le (winB q ws) n e s h8)
  have hml := Lib.hid (fun e j (hj : j ≤ 256) => (show sumTo (ordT (winB q ws) n e) j ≤ 1000000000000 by
    have := sumTo_le (htl.out e) j
    have h2 : j * 1625702400 ≤ 256 * 1625702400 := Nat.mul_le_mul_right _ hj
    omega))
  have RA := Lib.hid (fun e W => refRatio_any (manyO (winB q ws) n e) (fac n) W (hml.out e (pw n) hp8) hfp hfl)
  have hp : Hid (∀ e, powT (winB q ws) n e = (((manyO (winB q ws) n e / Nat.gcd (manyO (winB q ws) n e) (fac n) : Nat) : Int), ((fac n / Nat.gcd (manyO (winB q ws) n e) (fac n) : Nat) : Int))) := Lib.hid fun _ => rfl
  have hmo : Hid (∀ e, manyO (winB q ws) n e = sumTo (ordT (winB q ws) n e) (pw n)) := Lib.hid fun _ => rfl
  have hot : Hid (∀ e s, ordT (winB q ws) n e s = if turnB (winB q ws) e s then fac (siz s n) * fac (n - 1 - siz s n) else 0) := Lib.hid fun _ _ => rfl
  have hsl := Lib.hid (fun s e (he : e < n) (hb : s.testBit e = false) => (show siz s n ≤ n - 1 by
    have := cnt_one_less (p := s.testBit) hb n
    rw [if_pos he] at this
    show cnt s.testBit n ≤ n - 1
    omega))
  generalize hx : powT (winB q ws) n = x at *
  replace RA := Lib.hid (fun e W => (show Calls Try.prog 53 #[.int .i64 ((manyO (winB q ws) n e : Nat) : Int), .int .i64 ((fac n : Nat) : Int)] W (Ret (ratV (x e).1 (x e).2) W) by rw [hp.out]; exact RA.out e W))
  clear hp hx
  have hf8 := Lib.hid (fun k (hk : k ≤ 8) => (fac_le hk))
  have X := Lib.hid (Blk.new w 24 #[.int .i64 q, .slice a n c])
  obtain ⟨N, hN⟩ : ∃ N, Hid (pw n = N) := ⟨_, Lib.hid rfl⟩
  rw [hN.out] at hp8 hp1 sh hpl SZ hmo
  generalize ordT (winB q ws) n = od at *
  generalize manyO (winB q ws) n = mo at *
  generalize winB q ws = f at *
  have h := Lib.hid h
  clear hl hB
  go_enter Try.func25, Try.ntmps25
  go_wp2_with (go_at_call 41; refine (K.out _ (h.out.next (b1 _ _))).mono ?_; rintro e w1 ⟨rfl, hb1⟩; have X1 := X.out.ext hb1; have x0 := X1.c 0 rfl; have x1 := X1.c 1 rfl)
  clear x0 x1
  have B1 := nextB (b1 w (.cells #[.int .i64 q, .slice a n c] 24)) hb1
  clear hb1
  go_loopw [5, 6, 7, 8] (fun v s _ _ wr => ∃ k : Nat, k ≤ n ∧ s = .int .i64 k ∧ wr.ownsRow w.heap.size 38 2 v k (cellsR x k) ∧ Blk wr w.heap.size 24 #[.int .i64 q, .slice a n c] ∧ Below w.heap.size w wr) (fun _ s _ _ _ => n - (intOf s).toNat)
  case atStart => exact ⟨0, by omega, rfl, World.ownsRow_nil _ _ _ _, X1, B1⟩
  case round =>
    clear X1 B1
    obtain ⟨d, hk, rfl, hown, X1, B1⟩ := hrel
    have x0 := X1.c 0 rfl
    have x1 := X1.c 1 rfl
    obtain ⟨r, rc, rfl, hrc, hI⟩ := own_rats hown
    replace hI := Lib.hid hI
    by_cases hlt : d < n
    · clear hrc hI
      have hki : (d : Int) < (n : Int) := by omega
      have hst := Lib.hid (cellsR_succ x d)
      have htv := Lib.hid (hmo.out d)
      have hcs := Lib.hid (fun j => (show sumTo (od d) (j + 1) = sumTo (od d) j + od d j from rfl))
      have hcl := Lib.hid (fun j (hj : j ≤ 256) => hml.out d j hj)
      have hc0 : Hid (sumTo (od d) 0 = 0) := Lib.hid rfl
      have hlL := Lib.hid (cellsR_length x d)
      have hpd := hpl.out d hlt
      have shj : IntKind.i64.wrap ((2 : Int) ^ d) = ((pw d : Nat) : Int) := by rw [pw_int]; exact wrap_pw (by omega)
      generalize cellsR x d = L at *
      replace hown := Lib.hid hown
      go_wp2
      go_loopw [7, 8] (fun cm i wr => ∃ j : Nat, j ≤ N ∧ i = .int .i64 j ∧ cm = .int .i64 ((sumTo (od d) j : Nat) : Int) ∧ wr.ownsRow w.heap.size 38 2 (.slice r d rc) d L ∧ Blk wr w.heap.size 24 #[.int .i64 q, .slice a n c] ∧ Below w.heap.size w wr) (fun _ i _ => N - (intOf i).toNat)
      case atStart => exact ⟨0, by omega, rfl, by rw [hc0.out]; rfl, hown.out, X1, B1⟩
      case round =>
        clear X1 B1 hown
        obtain ⟨j, hj, rfl, rfl, hown, X1, B1⟩ := hrel
        have x0 := X1.c 0 rfl
        have x1 := X1.c 1 rfl
        replace X1 := Lib.hid X1
        have hcsj := Lib.hid (hcs.out j)
        have hclj := hcl.out j (by omega)
        by_cases hjn : j < N
        · have hji : (j : Int) < (N : Int) := by omega
          have hd : decide (j < N) = true := decide_eq_true hjn
          replace hown := Lib.hid hown
          have hbt := bt_int j d
          have y0 := cellX x0
          have y1 := cellX x1
          have hadd : IntKind.i64.wrap ((j : Int) + ((pw d : Nat) : Int)) = ((j + pw d : Nat) : Int) := by rw [IntWalk.i64_in _ (by omega)]; omega
          have V1 := Lib.hid (fun W hW => V.out W hW j (by omega))
          have V2 := Lib.hid (fun W hW => V.out W hW (j + pw d) (by omega))
          have ht : Hid (turnB f d j = (!(j.testBit d) && !(f j) && f (j + pw d))) := Lib.hid rfl
          have hotj := Lib.hid (hot.out d j)
          have hslj := Lib.hid (hsl.out j d hlt)
          have hf8' := hf8
          obtain ⟨u, hu⟩ : ∃ u, Hid (j + pw d = u) := ⟨_, Lib.hid rfl⟩
          rw [hu.out] at hadd V2 ht
          rw [ht.out] at hotj
          rw [hotj.out] at hcsj
          obtain ⟨cj, hcc⟩ : ∃ cj, Hid (sumTo (od d) j = cj) := ⟨_, Lib.hid rfl⟩
          rw [hcc.out] at hcsj hclj ⊢
          cases hb : j.testBit d
          · rw [bt_zero.2 hb] at hbt
            rw [hb] at hcsj
            replace hb := Lib.hid hb
            cases g1 : f j
            · rw [g1] at V1 hcsj
              replace g1 := Lib.hid g1
              cases g2 : f u
              · rw [g2] at V2 hcsj
                replace g2 := Lib.hid g2
                go_wp2
                refine wp_region_ext (by kernel_rfl) (by kernel_rfl) ?_
                repeat (go_big_quiet_step (first | (go_at_call 45; with_reducible exact callE (V1.out _ ((h.out.next B1).next (Ext.ok _)))) | (go_at_call 45; with_reducible exact callE (V2.out _ ((h.out.next B1).next (Ext.ok _))))))
                refine wpQuiet_nil ?_
                rintro ⟨w4, hw4⟩
                dsimp only
                clear y0 y1
                have hown3 := Lib.hid (owns_next hown.out hw4)
                have X3 := Lib.hid (X1.out.ext hw4)
                go_wp2
                go_roundw
                case rel => exact ⟨j + 1, by omega, by go_num, by rw [hcsj.out]; go_num, hown3.out, X3.out, nextB B1 hw4⟩
                case measure => simp [intOf]; omega
              · rw [g2] at V2 hcsj
                replace g2 := Lib.hid g2
                have hsb := hslj.out hb.out
                have S1 := Lib.hid (fun W => SZ.out j W hjn)
                have F1 := Lib.hid (fun W => FA.out (siz j n) W (by omega))
                have F2 := Lib.hid (fun W => FA.out (n - 1 - siz j n) W (by omega))
                have fb1 := hf8.out (siz j n) (by omega)
                have fb2 := hf8.out (n - 1 - siz j n) (by omega)
                have hpr : fac (siz j n) * fac (n - 1 - siz j n) ≤ 1625702400 := Nat.le_trans (Nat.mul_le_mul fb1 fb2) (by decide)
                have e1 : IntKind.i64.wrap ((n : Int) - 1) = ((n - 1 : Nat) : Int) := by rw [IntWalk.i64_in _ (by omega)]; omega
                have e2 : IntKind.i64.wrap (((n - 1 : Nat) : Int) - ((siz j n : Nat) : Int)) = ((n - 1 - siz j n : Nat) : Int) := by rw [IntWalk.i64_in _ (by omega)]; omega
                have hm2 : ((fac (siz j n) : Nat) : Int) * ((fac (n - 1 - siz j n) : Nat) : Int) = ((fac (siz j n) * fac (n - 1 - siz j n) : Nat) : Int) := (Int.natCast_mul _ _).symm
                have e3 : wrap64 (((fac (siz j n) : Nat) : Int) * ((fac (n - 1 - siz j n) : Nat) : Int)) = ((fac (siz j n) * fac (n - 1 - siz j n) : Nat) : Int) := by
                  rw [hm2]
                  exact IntWalk.wrap64_in _ ⟨by omega, by omega⟩
                have hcsj2 : Hid (sumTo (od d) (j + 1) = cj + fac (siz j n) * fac (n - 1 - siz j n)) := hcsj
                clear hcsj hm2
                generalize fac (siz j n) * fac (n - 1 - siz j n) = pr at *
                have hadj := add_fit cj pr hclj hpr
                generalize fac (siz j n) = f1 at *
                generalize n - 1 - siz j n = g3 at *
                generalize fac g3 = f2 at *
                generalize siz j n = g4 at *
                have h8n : (n - 1 : Nat) ≤ 8 := by omega
                generalize n - 1 = n1 at *
                go_wp2
                refine wp_region_ext (by kernel_rfl) (by kernel_rfl) ?_
                repeat (go_big_quiet_step (first | (go_at_call 45; with_reducible exact callE (V1.out _ ((h.out.next B1).next (Ext.ok _)))) | (go_at_call 45; with_reducible exact callE (V2.out _ ((h.out.next B1).next (Ext.ok _))))))
                refine wpQuiet_nil ?_
                rintro ⟨w4, hw4⟩
                dsimp only
                clear y0 y1
                have hown3 := Lib.hid (owns_next hown.out hw4)
                have X3 := Lib.hid (X1.out.ext hw4)
                go_wp2_with (first
                  | (go_at_call 52; refine (S1.out _).mono ?_; rintro e v1 ⟨rfl, rfl⟩)
                  | (go_at_call 51; (with_reducible refine (F1.out _).mono ?_); rintro e v2 ⟨rfl, rfl⟩)
                  | (go_at_call 51; (with_reducible refine (F2.out _).mono ?_); rintro e v3 ⟨rfl, rfl⟩))
                go_roundw
                case rel => exact ⟨j + 1, by omega, by go_num, by rw [hcsj2.out]; go_num, hown3.out, X3.out, nextB B1 hw4⟩
                case measure => simp [intOf]; omega
            · rw [g1] at V1 hcsj
              replace g1 := Lib.hid g1
              go_wp2
              refine wp_region_ext (by kernel_rfl) (by kernel_rfl) ?_
              repeat (go_big_quiet_step ((go_at_call 45; with_reducible exact callE (V1.out _ ((h.out.next B1).next (Ext.ok _))))))
              refine wpQuiet_nil ?_
              rintro ⟨w4, hw4⟩
              dsimp only
              clear y0 y1
              have hown3 := Lib.hid (owns_next hown.out hw4)
              have X3 := Lib.hid (X1.out.ext hw4)
              go_wp2
              go_roundw
              case rel => exact ⟨j + 1, by omega, by go_num, by rw [hcsj.out]; go_num, hown3.out, X3.out, nextB B1 hw4⟩
              case measure => simp [intOf]; omega
          · rw [bt_one.2 hb] at hbt
            rw [hb] at hcsj
            replace hb := Lib.hid hb
            go_wp2
            refine wp_region_ext (by kernel_rfl) (by kernel_rfl) ?_
            repeat (go_big_quiet_step (fail))
            refine wpQuiet_nil ?_
            rintro ⟨w4, hw4⟩
            dsimp only
            clear y0 y1
            have hown3 := Lib.hid (owns_next hown.out hw4)
            have X3 := Lib.hid (X1.out.ext hw4)
            go_wp2
            go_roundw
            case rel => exact ⟨j + 1, by omega, by go_num, by rw [hcsj.out]; go_num, hown3.out, X3.out, nextB B1 hw4⟩
            case measure => simp [intOf]; omega
        · obtain rfl : j = N := by omega
          have hd : decide (j < j) = false := decide_eq_false hjn
          have RK := Lib.hid (fun W => RA.out d W)
          have FN := Lib.hid (fun W => FA.out n W h8)
          rw [htv.out] at RK
          obtain ⟨u, hu⟩ : ∃ u, Hid (sumTo (od d) j = u) := ⟨_, Lib.hid rfl⟩
          rw [hu.out] at RK ⊢
          clear hclj hcsj
          replace hown := Lib.hid hown
          go_wp2_with (first
            | (go_at_call 51; refine (FN.out _).mono ?_; rintro e v1 ⟨rfl, rfl⟩)
            | (go_at_call 53; refine (RK.out _).mono ?_; rintro e w3 ⟨rfl, hb3⟩; replace hown := owns_next hown.out hb3; replace X1 := Lib.hid (X1.out.ext hb3); replace B1 := nextB B1 hb3)
            | (at_builtin; refine wpList_append_own _ rfl _ _ 34 rfl w.heap.size 38 i0 (.agg #[.int .i64 0, .int .i64 0]) 2 16 Try.underlying34 G0.out G1.out G2.out G3.out rfl (by decide) _ _ _ rfl (hown.alloc _) ⟨_, 0, none⟩ 1 1 [.int .i64 (x d).1, .int .i64 (x d).2] rfl rfl (cellR_new _ _ _ _) (by simp [Value.oneCell']) (by unfold maxLen; omega) (by omega) (by have := B1.size; simp; omega) ?_; intro v' w5 hown5 hgrow _))
          have hsz := B1.size
          have B2 := (B1.alloc hsz _).grown hgrow (by simp; omega) (fun q hq => by have := (hown.lt q hq).1; omega)
          have hvb : (Value.slice r d rc).ownBlock ≠ some w.heap.size := fun e => by
            have h1 := X1.out
            rcases hown.2 with ⟨e1, _⟩ | ⟨g', cap, cur, e1, _, hg, _⟩
            · rw [e1] at e; simp [Value.ownBlock] at e
            · rw [e1] at e
              simp [Value.ownBlock] at e
              subst e
              have := h1.symm.trans hg
              simp at this
          have X3 := (X1.out.alloc (.cells #[.int .i64 (x d).1, .int .i64 (x d).2] 38)).grown hgrow (Ne.symm hvb)
          go_roundw
          case rel => exact ⟨d + 1, by omega, by go_num, by rw [hst.out]; exact hown5, X3, B2⟩
          case measure => simp [intOf]; omega
    · obtain rfl : d = n := by omega
      replace hown := Lib.hid hown
      go_wp2_with fail
      go_ret2
      exact ⟨r, rc, rfl, hrc, hI.out, B1⟩
end Go.Proofs.Ytnnndooagpkgmaa
