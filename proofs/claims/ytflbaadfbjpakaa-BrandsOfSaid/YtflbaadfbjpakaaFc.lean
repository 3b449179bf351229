/- Layer 2: Flip, by the specification. -/
import Derived.Test.YtflbaadfbjpakaaFb
import Derived.Test.YtflbaadfbjpakaaFg
import Derived.Deep.RegionWith
namespace Go.Proofs.Ytflbaadfbjpakaa
open Go Go.RowKit

theorem put_flip {n : Nat} {L : List (Int × Int)} (hB : BrandP n L) {i : Nat} (hi : i < L.length) :
    LineP n (otherL n L (pth L i)) ∧ otherL n L (pth L i) ≠ pth L i ∧ putL (L.take i ++ L.drop (i + 1)) (otherL n L (pth L i)) = flipL n L i ∧ BrandP n (flipL n L i) ∧
      ∀ x, x ≠ otherL n L (pth L i) → ¬ (x ≠ pth L i ∧ BrandP n (putL (L.take i ++ L.drop (i + 1)) x)) := by
  obtain ⟨m, hm, h9, hf, hs⟩ := brand_nat hB
  obtain rfl : n = m + 3 := by omega
  obtain ⟨f1, f2, f3, f4⟩ := flipL_full hf hi
  have hmem : otherL (m + 3) L (pth L i) ∈ flipL (m + 3) L i := f4.mem_iff.2 (List.mem_cons_self ..)
  have hsK : (L.take i ++ L.drop (i + 1)).Pairwise LeP := by
    have h := sortedP_pair.1 hs
    rw [← List.eraseIdx_eq_take_drop_succ]
    exact h.sublist (List.eraseIdx_sublist _ _)
  have hput : ∀ x, SortedP (putL (L.take i ++ L.drop (i + 1)) x) := fun x => sortedP_pair.2 (putL_sorted hsK x)
  refine ⟨f1.1.1 _ hmem, fun e => ?_, ?_, (flip_facts hB hi).1, fun x hx hh => ?_⟩
  · rw [e] at f3
    exact f3 (in_pth.2 ⟨i, hi, rfl⟩)
  · exact sorted_one (hput _) f2 ((putL_perm _ _).trans f4.symm)
  · exact hx (flipL_one hf hi hh.1 (putL_perm _ _) hh.2.full.1)
theorem putK_length {L : List (Int × Int)} {i : Nat} (hi : i < L.length) (x : Int × Int) : (putL (L.take i ++ L.drop (i + 1)) x).length = L.length := by
  rw [(putL_perm _ _).length_eq]
  simp
  omega
theorem own_prs2 {w : World} {base : Nat} {v : Value} {L : List (Int × Int)} {e : TypeId} (h : w.ownsRow base e 2 v L.length (cP L)) : ∃ a c, v = .slice a L.length c ∧ L.length ≤ c ∧ Prs w a L ∧ (a = none → c = 0) ∧ ∀ ad, a = some ad → ∃ b off, ad = ⟨b, off, none⟩ := by
  obtain ⟨a, c, rfl, h1, h2⟩ := own_prs h
  refine ⟨a, c, rfl, h1, h2, fun e => ?_, fun ad e => ?_⟩
  · subst e
    rcases h.2 with ⟨h1, _⟩ | ⟨g, cap, cur, h1, _⟩
    · simp at h1; exact h1.2
    · simp at h1
  · subst e
    rcases h.2 with ⟨h1, _⟩ | ⟨g, cap, cur, h1, _⟩
    · simp at h1
    · simp only [Value.slice.injEq, Option.some.injEq] at h1
      exact ⟨_, _, h1.1⟩
set_option maxRecDepth 100000 in
set_option maxHeartbeats 4000000 in
theorem refFlip_yes (n : Nat) (a : Option Addr) (m c : Nat) (L : List (Int × Int)) (i : Nat) (w : World) (h : Prs w a L) (hl : L.length = m) (hcap : m ≤ c) (hB : BrandP n L) (hi : i < m) :
    Calls Try.prog 41 #[.int .i64 n, .slice a m c, .int .i64 i] w (fun e w' => ∃ a' c', e = .returned (.tuple #[.slice a' m c', .int .i64 0]) ∧ Prs w' a' (flipL n L i) ∧ m ≤ c' ∧ Below w.heap.size w w') := by
  have hn12 : n ≤ 12 := by have := hB.2.1; omega
  have hm9 : m ≤ 9 := by have := hB.2.2.1; omega
  have I := Lib.hid (show Calls _ _ _ w (Ret (.bool true) w) from by
    have := refIsBrand_any n a m c L w h hl (by omega)
    rwa [decide_eq_true hB] at this)
  obtain ⟨f1, f2, f3, f4, f5⟩ := put_flip hB (i := i) (by omega)
  have hpl := Lib.hid (fun x => putK_length (L := L) (i := i) (by omega) x)
  obtain ⟨b, off, rfl, hc⟩ := prs_at h (by omega)
  rw [hl] at hc hpl
  have WO := Lib.hid (fun W (hW : Below w.heap.size w W) => refWithout_any b off m c L i W (fun k hk => ⟨cellB hW (hc k hk).1, cellB hW (hc k hk).2⟩) hl hcap hi (by omega))
  have hKl := Lib.hid (show (L.take i ++ L.drop (i + 1)).length = m - 1 by simp; omega)
  have hci := hc i hi
  clear h hl hc hB
  generalize hK : L.take i ++ L.drop (i + 1) = K at *
  generalize hO : otherL n L (pth L i) = O at *
  generalize hX : flipL n L i = X at *
  clear hK hO hX
  obtain ⟨oa, ob⟩ := O
  unfold LineP at f1
  simp only [] at f1
  obtain ⟨oa, rfl⟩ : ∃ k : Nat, oa = k := ⟨oa.toNat, by omega⟩
  obtain ⟨ob, rfl⟩ : ∃ k : Nat, ob = k := ⟨ob.toNat, by omega⟩
  have g1 : oa + 2 ≤ ob := by omega
  have g2 : ob < n := by omega
  clear f1
  have hKm := hKl.out
  have PU := Lib.hid (fun (x0 x1 : Int) W a1 c1 (hp : Prs W a1 K) (hc1 : K.length ≤ c1) (hn1 : a1 = none → c1 = 0) (had : ∀ ad, a1 = some ad → ∃ b off, ad = ⟨b, off, none⟩) => show Calls Try.prog 56 #[.slice a1 K.length c1, .agg #[.int .i64 x0, .int .i64 x1]] W (fun e w' => ∃ a2 c2, e = .returned (.slice a2 m c2) ∧ Prs w' a2 (putL K (x0, x1)) ∧ m ≤ c2 ∧ Below W.heap.size W w') from
    (refPut_any a1 K.length c1 K x0 x1 W hp rfl hc1 hn1 had (by omega)).mono fun e w' ⟨v, h1, h2, h3⟩ => by
      rw [show K.length + 1 = (putL K (x0, x1)).length by rw [hpl.out, hKm]; omega] at h2
      obtain ⟨a2, c2, rfl, h4, h5, _⟩ := own_prs2 h2
      rw [hpl.out] at h1 h4
      exact ⟨a2, c2, h1, h5, h4, h3⟩)
  rw [← hKm] at WO
  have IB := Lib.hid (fun (x : Int × Int) W a2 c2 (hp : Prs W a2 (putL K x)) => refIsBrand_any n a2 m c2 (putL K x) W hp (hpl.out x) (by omega))
  clear hKm
  have hyes : Hid (eqP ((oa : Int), (ob : Int)) ((pth L i).1, (pth L i).2) = false) := Lib.hid (eqP_not.2 f2)
  have hdec : Hid (∀ A B : Nat, (A ≠ oa ∨ B ≠ ob) → eqP ((A : Int), (B : Int)) ((pth L i).1, (pth L i).2) = true ∨ (eqP ((A : Int), (B : Int)) ((pth L i).1, (pth L i).2) = false ∧ ¬ BrandP n (putL K ((A : Int), (B : Int))))) := Lib.hid fun A B hAB => by
    cases g : eqP ((A : Int), (B : Int)) ((pth L i).1, (pth L i).2) with
    | true => exact .inl rfl
    | false => exact .inr ⟨rfl, fun hb => f5 ((A : Int), (B : Int)) (by simp only [ne_eq, Prod.mk.injEq]; omega) ⟨eqP_not.1 g, hb⟩⟩
  replace f3 := Lib.hid f3
  replace f4 := Lib.hid f4
  clear f2 f5
  go_enter Try.func41, Try.ntmps41
  go_wp2_with fail
  refine I.out.mono ?_
  rintro e w1 ⟨rfl, hb1⟩
  dsimp only
  clear I
  have q0 : decide ((i : Int) < 0) = false := decide_eq_false (by omega)
  have q1 : decide (m ≤ i) = false := decide_eq_false (by omega)
  have q2 : decide ((m : Int) ≤ (i : Int)) = false := decide_eq_false (by omega)
  go_wp2_with fail
  try simp only [q0, q1, q2, Bool.or_false]
  go_loopw [8, 9, 10, 11] (fun a_ _ _ _ wr => ∃ A : Nat, A ≤ oa ∧ a_ = .int .i64 A ∧ Below w.heap.size w wr) (fun a_ _ _ _ _ => n - (intOf a_).toNat)
  case atStart => exact ⟨0, by omega, rfl, hb1⟩
  case round =>
    clear hb1
    obtain ⟨A, hA, rfl, B0⟩ := hrel
    have hAn : (A : Int) < (n : Int) := by omega
    go_wp2_with fail
    go_loopw [9, 10, 11] (fun b_ _ _ wr => ∃ B : Nat, A + 2 ≤ B ∧ B ≤ n ∧ (A = oa → B ≤ ob) ∧ b_ = .int .i64 B ∧ Below w.heap.size w wr) (fun b_ _ _ _ => n - (intOf b_).toNat)
    case atStart => exact ⟨A + 2, by omega, by omega, by omega, by simp, B0⟩
    case round =>
      clear B0
      obtain ⟨B, hB1, hB2, hB3, rfl, B0⟩ := hrel
      by_cases hlt : B < n
      · go_wp2_with fail
        have X0 := Blk.new wr 60 #[.int .i64 A, .int .i64 B]
        have B1 := nextB B0 (b1 wr (.cells #[.int .i64 A, .int .i64 B] 60))
        generalize hwa : wr.alloc (.cells #[.int .i64 A, .int .i64 B] 60) = wa at *
        clear hwa B0
        generalize wr.heap.size = Z at *
        have y0 : wa.cell? ⟨Z, 0, none⟩ = some (.int .i64 A) := X0.c 0 rfl
        have y1 : wa.cell? ⟨Z, 1, none⟩ = some (.int .i64 B) := X0.c 1 rfl
        go_region_with (first
          | (go_at_call 71; refine (WO.out _ B1.drew).mono ?_; rintro e w2 ⟨v2, rfl, hown2, hb2⟩; obtain ⟨a2, c2, rfl, hc2, hp2, hn2, had2⟩ := own_prs2 hown2; have z0 := cellB hb2 y0; have z1 := cellB hb2 y1)
          | (go_at_call 56; refine (PU.out _ _ _ _ _ hp2 hc2 hn2 had2).mono ?_; rintro e w3 ⟨a3, c3, rfl, hp3, hc3, hb3⟩))
        all_goals (
          simp only [Act.put, List.getElem_toArray, List.getElem_cons_succ, List.getElem_cons_zero, List.setIfInBounds_toArray, List.set_cons_zero, List.set_cons_succ]
          have hb4 := nextB (nextB (Below.refl wa.heap.size wa).drew hb2) hb3
          have B3 := nextB B1 hb4
          have X3 := X0.ext hb4
          have x0 := cellX (show w3.cell? ⟨Z, 0, none⟩ = some (.int .i64 A) from X3.c 0 rfl)
          have x1 := cellX (show w3.cell? ⟨Z, 1, none⟩ = some (.int .i64 B) from X3.c 1 rfl)
          have r0 := cellX (cellB B3 hci.1)
          have r1 := cellX (cellB B3 hci.2)
          clear y0 y1 z0 z1 X0 X3 hb2 hb3 hb4 hown2 hp2 hn2 had2 B1
          have hi1 : (i : Int) < (m : Int) := by omega
          by_cases hAB : A = oa ∧ B = ob
          · obtain ⟨rfl, rfl⟩ := hAB
            have hq := hyes.out
            have IE := Lib.hid (fun (x : Ext w3) => show Calls _ _ _ x.world (Ret (.bool true) x.world) from by
              have := IB.out ((A : Int), (B : Int)) x.world a3 c3 (hp3.next x.ok)
              rw [f3.out] at this
              rwa [decide_eq_true f4.out] at this)
            go_wp2_with fail
            refine wp_region_ext (by kernel_rfl) (by kernel_rfl) ?_
            repeat (go_big_quiet_step ((go_at_call 19; exact callE (IE.out _))))
            refine wpQuiet_nil ?_
            rintro ⟨w4, hw4⟩
            dsimp only
            replace B3 := nextB B3 hw4
            replace hp3 := hp3.next hw4
            clear x0 x1 r0 r1 hw4
            rw [f3.out] at hp3
            clear IE
            go_wp2_with fail
            go_ret2
            exact ⟨_, _, rfl, hp3, hc3, B3⟩
          · have hd := hdec.out A B (by omega)
            have hst : Hid (A = oa → B + 1 ≤ ob) := Lib.hid fun e => by have := hB3 e; omega
            clear hAB
            rcases hd with hq | ⟨hq, hnb⟩
            · go_wp2_with fail
              refine wp_region_ext (by kernel_rfl) (by kernel_rfl) ?_
              repeat (go_big_quiet_step (fail))
              refine wpQuiet_nil ?_
              rintro ⟨w4, hw4⟩
              dsimp only
              replace B3 := nextB B3 hw4
              clear x0 x1 r0 r1 hw4
              go_wp2_with fail
              go_roundw
              case rel => exact ⟨B + 1, by omega, by omega, hst.out, by go_num, B3⟩
              case measure => simp [intOf]; omega
            · have IE := Lib.hid (fun (x : Ext w3) => show Calls _ _ _ x.world (Ret (.bool false) x.world) from by
                have := IB.out ((A : Int), (B : Int)) x.world a3 c3 (hp3.next x.ok)
                rwa [decide_eq_false hnb] at this)
              clear hnb
              go_wp2_with fail
              refine wp_region_ext (by kernel_rfl) (by kernel_rfl) ?_
              repeat (go_big_quiet_step ((go_at_call 19; exact callE (IE.out _))))
              refine wpQuiet_nil ?_
              rintro ⟨w4, hw4⟩
              dsimp only
              replace B3 := nextB B3 hw4
              replace hp3 := hp3.next hw4
              clear x0 x1 r0 r1 hw4
              go_wp2_with fail
              go_roundw
              case rel => exact ⟨B + 1, by omega, by omega, hst.out, by go_num, B3⟩
              case measure => simp [intOf]; omega)
      · have hne : A ≠ oa := by omega
        go_wp2_with fail
        go_roundw
        case rel => exact ⟨A + 1, by omega, by go_num, B0⟩
        case measure => simp [intOf]; omega
end Go.Proofs.Ytflbaadfbjpakaa
