/- Layer 5, by the specification: build, Build; same. -/
import Derived.Test.YtfdaljekehkkaaaGreatDoorPf
import Derived.Test.YtfdaljekehkkaaaGreatDoorEf
import Derived.Test.YtfdaljekehkkaaaGreatDoorFb
import Derived.Laws.IdiomStrings
namespace Go.Proofs.YtfdaljekehkkaaaGreatDoor
open Go Go.RowKit

theorem addStr (x y : List UInt8) (h : x.length + y.length ≤ 1000000) (W : World) : (binOp .add 9 (strV x) (strV y)).run Tryz.prog W = .ok (strV (x ++ y)) W := by
  unfold strV
  go_simp
  rw [if_neg (by omega)]
  congr 2
theorem add44 (x : List UInt8) (h : x.length ≤ 10000) (W : World) : (binOp .add 9 (strV x) (.string ⟨#[44]⟩)).run Tryz.prog W = .ok (strV (x ++ [44])) W := addStr x [44] (by simp; omega) W
theorem add41 (x : List UInt8) (h : x.length ≤ 10000) (W : World) : (binOp .add 9 (strV x) (.string ⟨#[41]⟩)).run Tryz.prog W = .ok (strV (x ++ [41])) W := addStr x [41] (by simp; omega) W
theorem cnt_pow : ∀ s, s < 512 → 0 < s → (s &&& (s - 1) = 0 ↔ cntF s 9 = 1) := by decide +kernel
theorem txtL_snoc : ∀ (ts : List Tr) (t : Tr), ts ≠ [] → txtL (ts ++ [t]) = txtL ts ++ 44 :: t.txt
  | [], t, h => absurd rfl h
  | k :: ks, t, _ => by simp [txtL, conL_append, conL]
theorem allO_snoc {α β : Type} (f : α → Option β) (xs : List α) (x : α) : allO f (xs ++ [x]) = match allO f xs with | none => none | some ys => (f x).map fun y => ys ++ [y] := by
  induction xs with
  | nil => simp only [List.nil_append, allO]; cases f x <;> rfl
  | cons a xs ih =>
    simp only [List.cons_append, allO]
    cases f a with
    | none => rfl
    | some b =>
      simp only [ih]
      cases allO f xs with
      | none => rfl
      | some ys => cases f x <;> rfl
theorem allO_pre {α β : Type} (f : α → Option β) (xs ys : List α) (h : allO f xs = none) : allO f (xs ++ ys) = none := by
  induction xs with
  | nil => simp [allO] at h
  | cons a xs ih =>
    simp only [List.cons_append, allO] at h ⊢
    cases ha : f a with
    | none => rfl
    | some b =>
      rw [ha] at h
      simp only at h ⊢
      cases hb : allO f xs with
      | none => rw [ih hb]
      | some zs => rw [hb] at h; cases h
theorem World_addz (g : Nat) : Addr.add ⟨g, 0, none⟩ 0 = ⟨g, 0, none⟩ := by unfold Addr.add; split <;> simp_all
/-- What the specification's build returns of a tree. -/
def bldO (o : Option Tr) : List UInt8 × Bool := match o with | some t => (t.txt, true) | none => ([], false)
theorem oneByte (W : World) (b : Nat) (hb : b < 9) : (Go.convert 78 9 (.slice (some ⟨W.heap.size, 0, none⟩) 1 1)).run Tryz.prog (W.alloc (.cells #[.int .u8 (48 + (b : Int))] 5)) = .ok (strV [UInt8.ofNat (48 + b)]) (W.alloc (.cells #[.int .u8 (48 + (b : Int))] 5)) := by
  have x0 := (Blk.new W 5 #[.int .u8 (48 + (b : Int))]).c 0 rfl
  refine run_convert_bytes_back _ _ _ 5 _ _ [UInt8.ofNat (48 + b)] Tryz.underlying78 Tryz.underlying5 Tryz.underlying9 (fun j hj => ?_)
  have hj0 : j = 0 := by simpa using hj
  subst hj0
  rw [World_addz, x0]
  have hb2 : (UInt8.ofNat (48 + b)).toNat = 48 + b := by simp only [UInt8.toNat_ofNat']; omega
  show some (Value.int .u8 (48 + (b : Int))) = some (Value.int .u8 (((UInt8.ofNat (48 + b)).toNat : Nat) : Int))
  rw [hb2]
  congr 2
theorem txtL_bd : ∀ ts : List Tr, (∀ t ∈ ts, t.txt.length ≤ 33) → (txtL ts).length ≤ ts.length * 34
  | [], _ => by simp [txtL]
  | t :: ts, h => by
    have h1 := h t (by simp)
    have : ∀ us : List Tr, (∀ t ∈ us, t.txt.length ≤ 33) → (conL us).length ≤ us.length * 34 := by
      intro us
      induction us with
      | nil => intro _; simp [conL]
      | cons u us ih =>
        intro h
        have h1 := h u (by simp)
        have h2 := ih fun t ht => h t (by simp [ht])
        simp only [conL, List.length_cons, List.length_append]
        omega
    have h2 := this ts fun t ht => h t (by simp [ht])
    simp only [txtL, List.length_append, List.length_cons]
    omega
set_option maxRecDepth 100000 in
set_option maxHeartbeats 4000000 in
theorem refBuild_any (a : Option Addr) (l c : Nat) (L : List T3) (hl : L.length = l) (hl9 : l ≤ 1000) (hok : ∀ t ∈ L, Tri8 t) : ∀ (f s : Nat) (w : World), s < f → 0 < s → s < 256 → Trips w a L →
    Calls Tryz.prog 25 #[.slice a l c, .int .i64 (s : Nat)] w (Ret (.tuple #[strV (bldO (buildT L f s)).1, .bool (bldO (buildT L f s)).2]) w) := by
  intro f
  induction f with
  | zero => intro s w h; omega
  | succ f ih =>
    intro s w hsf h0 hs hTr
    have P := Lib.hid (refParts_any a l c L s w hTr hl hl9 hok hs)
    have hpow := cnt_pow s (by omega) h0
    have ha := i64_and_nat s (s - 1) (by omega) (by omega)
    have hw : IntKind.i64.wrap ((s : Int) - 1) = ((s - 1 : Nat) : Int) := by rw [IntWalk.i64_in _ (by omega)]; omega
    by_cases h1 : cntF s 9 = 1
    · have LE := Lib.hid (fun W => refLeast_any s (by omega) (by omega) W)
      have hb := (cnt_one s (by omega) h1).2
      have OB := fun W => oneByte W (lowB s) hb
      rw [hpow.2 h1] at ha
      have hbt : buildT L (f + 1) s = some (.leaf (lowB s)) := by rw [buildT, if_pos h1]
      rw [hbt]
      show Calls _ _ _ _ (Ret (.tuple #[strV [UInt8.ofNat (48 + lowB s)], .bool true]) w)
      generalize lowB s = b at *
      generalize UInt8.ofNat (48 + b) = r at *
      obtain ⟨pl, hpl⟩ : ∃ p, Hid (outL L s = p) := ⟨_, Lib.hid rfl⟩
      rw [hpl.out] at P
      clear ih hpow hbt
      go_enter Tryz.func25, Tryz.ntmps25
      go_wp2_with (first
        | (go_at_call 43; (with_reducible refine P.out.mono ?_); rintro e w2 ⟨v2, rfl, ho2, hb2⟩; obtain ⟨a2, c2, rfl, hc2, _⟩ := own_sets ho2 rfl; clear ho2)
        | (go_at_call 44; (with_reducible refine (LE.out _).mono ?_); rintro e w3 ⟨rfl, rfl⟩))
      go_ret2
      exact Ret.mk rfl (nextB hb2 (b1 _ _))
    · have hz : ¬ s &&& (s - 1) = 0 := fun e => h1 (hpow.1 e)
      have hzn : (((s &&& (s - 1) : Nat) : Int) == 0) = false := by rw [beq_eq_false_iff_ne]; omega
      generalize s &&& (s - 1) = zz at *
      have hlen := out_len (L := L) hs
      have hPt := out_part (L := L) hs
      by_cases h2 : (partsL L s).length = 1
      · have hbt : buildT L (f + 1) s = none := by rw [buildT, if_neg h1, if_pos h2]
        rw [hbt]
        show Calls _ _ _ _ (Ret (.tuple #[strV [], .bool false]) w)
        obtain ⟨pl, hpl⟩ : ∃ p, Hid (outL L s = p) := ⟨_, Lib.hid rfl⟩
        rw [hpl.out] at P hlen
        rw [h2] at hlen
        clear ih hpow hbt hPt
        go_enter Tryz.func25, Tryz.ntmps25
        go_wp2_with (first
          | (go_at_call 43; (with_reducible refine P.out.mono ?_); rintro e w2 ⟨v2, rfl, ho2, hb2⟩; rw [hlen] at ho2; obtain ⟨a2, c2, rfl, hc2, _⟩ := own_sets ho2 hlen; clear ho2))
        go_ret2
        exact Ret.mk rfl hb2
      · have hbt := build_out (f := f) hs h0 h1 h2
        have h22 : 2 ≤ (outL L s).length := by
          rw [hlen]
          have : (partsL L s).length ≠ 0 := by
            rw [← hlen]
            intro e
            obtain ⟨i, hi⟩ := ex_bit (show s ≠ 0 by omega)
            obtain ⟨p, hp, _⟩ := (hPt.all i).1 hi
            rw [List.length_eq_zero_iff.1 e] at hp
            cases hp
          omega
        have hIH := Lib.hid (fun p (hp : p ∈ outL L s) W hW => ih p W (by have := hPt.lt h22 hp; omega) (Nat.pos_of_ne_zero (hPt.some p hp)) (by have := hPt.lt h22 hp; omega) hW)
        have hgood := Lib.hid (fun p (hp : p ∈ outL L s) t (ht : buildT L f p = some t) => show t.txt.length ≤ 33 from (buildT_good L (m := 9) (by omega) f p t (by have := hPt.lt h22 hp; have h9 : pw 9 = 512 := rfl; omega) (Nat.pos_of_ne_zero (hPt.some p hp)) ht).short (by omega))
        have hl9 := outF_len (labL L s) s 8
        change (outL L s).length ≤ 8 at hl9
        rw [hbt]
        obtain ⟨R, hR⟩ : ∃ R, Hid (bldO (Option.map Tr.fam (allO (buildT L f) (outL L s))) = R) := ⟨_, Lib.hid rfl⟩
        rw [hR.out]
        obtain ⟨q, hq⟩ : ∃ q, Hid ((outL L s).length = q) := ⟨_, Lib.hid rfl⟩
        rw [hq.out] at hl9 h22 hlen
        clear hlen h2 hbt hPt hpow ih
        generalize outL L s = pl at *
        have hq2 : ¬ ((q : Int) == 1) = true := by rw [beq_iff_eq]; omega
        have hq3 : ((q : Int) == 1) = false := by rw [beq_eq_false_iff_ne]; omega
        have hT0 := Lib.hid hTr
        go_enter Tryz.func25, Tryz.ntmps25
        go_wp2_with (first
          | (go_at_call 43; (with_reducible refine P.out.mono ?_); rintro e w2 ⟨v2, rfl, ho2, hb2⟩; rw [hq.out] at ho2; obtain ⟨a2, c2, rfl, hc2, hS2⟩ := own_sets ho2 hq.out; clear ho2))
        replace hS2 := Lib.hid hS2
        go_loopw [7, 8] (fun o i wr => ∃ k : Nat, ∃ ts : List Tr, k ≤ q ∧ i = .int .i64 k ∧ o = strV (40 :: txtL ts) ∧ Hid (allO (buildT L f) (pl.take k) = some ts) ∧ Below w2.heap.size w2 wr) (fun _ i _ => q - (intOf i).toNat)
        case atStart => exact ⟨0, [], Nat.zero_le _, rfl, rfl, Lib.hid rfl, Below.refl _ _⟩
        case round =>
          obtain ⟨k, ts, hk, rfl, rfl, hts, B0⟩ := hrel
          have htl : ts.length = k := by
            have := (allO_some.1 hts.out).1
            rw [List.length_take, hq.out] at this
            omega
          have hall : ∀ t ∈ ts, t.txt.length ≤ 33 := fun t ht => by
            obtain ⟨i, hi, rfl⟩ := List.mem_iff_getElem.1 ht
            obtain ⟨e1, e2⟩ := allO_some.1 hts.out
            have h3 := e2 i (by omega) hi
            exact hgood.out _ (List.mem_of_mem_take (List.getElem_mem (l := pl.take k) (n := i) (by omega))) _ h3
          have hbd := txtL_bd ts hall
          rw [htl] at hbd
          have hbd2 : (txtL ts).length ≤ 300 := by omega
          by_cases hlt : k < q
          · have hkl : k < pl.length := by rw [hq.out]; exact hlt
            have hki : (k : Int) < (q : Int) := by omega
            rcases hS2.out.next B0 with e0 | ⟨b, off, rfl, hc⟩
            · omega
            · have x0 := hc k hkl
              have hm : pl.getD k 0 ∈ pl := getD_mem hkl
              have CB := Lib.hid (hIH.out _ hm wr (hT0.out.next (nextB hb2 B0)))
              have hg := Lib.hid (hgood.out _ hm)
              have eS := Lib.hid (show allO (buildT L f) (pl.take (k + 1)) = (buildT L f (pl.getD k 0)).map fun y => ts ++ [y] by rw [take_snocN pl k hkl, allO_snoc, hts.out])
              have eF := Lib.hid (show buildT L f (pl.getD k 0) = none → allO (buildT L f) pl = none from fun e => by
                have h1 := eS.out
                rw [e] at h1
                rw [← List.take_append_drop (k + 1) pl]
                exact allO_pre _ _ _ h1)
              generalize pl.getD k 0 = p at *
              generalize buildT L f p = o at *
              clear hc hall hbd
              cases o with
              | none =>
                have hRe : R = ([], false) := by rw [← hR.out, eF.out rfl]; rfl
                subst hRe
                replace CB : Hid (Calls Tryz.prog 25 _ _ (Ret (.tuple #[strV [], .bool false]) wr)) := CB
                go_wp2_with (first
                  | (go_at_call 25; (with_reducible refine CB.out.mono ?_); rintro e w3 ⟨rfl, hb3⟩))
                go_ret2
                exact Ret.mk rfl (nextB (nextB hb2 B0) hb3)
              | some t =>
                have ht33 := hg.out t rfl
                replace CB : Hid (Calls Tryz.prog 25 _ _ (Ret (.tuple #[strV t.txt, .bool true]) wr)) := CB
                have eS2 := Lib.hid (show allO (buildT L f) (pl.take (k + 1)) = some (ts ++ [t]) from eS.out)
                have A1 := add44 (40 :: txtL ts) (by simp; omega)
                have A2 := addStr ((40 :: txtL ts) ++ [44]) t.txt (by simp; omega)
                have A3 := addStr (40 :: txtL ts) t.txt (by simp; omega)
                by_cases hk0 : 0 < k
                · have hk0I : (0 : Int) < (k : Int) := by omega
                  have eT := Lib.hid (show 40 :: txtL (ts ++ [t]) = ((40 :: txtL ts) ++ [44]) ++ t.txt by rw [txtL_snoc ts t (by intro e; rw [e] at htl; simp at htl; omega)]; simp)
                  generalize (40 :: txtL ts) = T0 at *
                  generalize T0 ++ [44] = T1 at *
                  generalize T1 ++ t.txt = T2 at *
                  clear A3
                  go_wp2_with (first
                    | (go_at_call 25; (with_reducible refine CB.out.mono ?_); rintro e w3 ⟨rfl, hb3⟩))
                  go_roundw
                  case rel => exact ⟨k + 1, ts ++ [t], by omega, by go_num, by rw [eT.out], eS2, nextB B0 hb3⟩
                  case measure => simp [intOf]; omega
                · obtain rfl : k = 0 := by omega
                  obtain rfl : ts = [] := List.length_eq_zero_iff.1 htl
                  have eT := Lib.hid (show 40 :: txtL ([] ++ [t]) = (40 :: txtL []) ++ t.txt by simp [txtL, conL])
                  generalize (40 :: txtL []) = T0 at *
                  generalize T0 ++ t.txt = T2 at *
                  clear A1 A2
                  rw [Nat.add_zero] at x0
                  rw [show ((0 : Nat) : Int) = 0 from rfl]
                  go_wp2_with (first
                    | (go_at_call 25; (with_reducible refine CB.out.mono ?_); rintro e w3 ⟨rfl, hb3⟩))
                  go_roundw
                  case rel => exact ⟨1, [] ++ [t], by omega, by go_num, by rw [eT.out], eS2, nextB B0 hb3⟩
                  case measure => simp [intOf]; omega
          · obtain rfl : k = q := by omega
            have ef := hts.out
            rw [show pl.take k = pl by rw [← hq.out, List.take_length]] at ef
            have hRe : R = ((40 :: txtL ts) ++ [41], true) := by rw [← hR.out, ef]; simp [bldO, Tr.txt]
            subst hRe
            have A1 := add41 (40 :: txtL ts) (by simp; omega)
            generalize (40 :: txtL ts) = T0 at *
            go_wp2
            go_ret2
            exact Ret.mk rfl (nextB hb2 B0)
end Go.Proofs.YtfdaljekehkkaaaGreatDoor
