/- Layer 5, by the program: joined. -/
import Derived.Test.YtfdaljekehkkaaaGreatDoorDc
namespace Go.Proofs.YtfdaljekehkkaaaGreatDoor
open Go Go.RowKit

theorem unit_len {s q : Nat} {ps : List Nat} (h : IsPart s ps) (hq : q ≠ 0) (hqs : inB q s = true) : (unitP ps q).length ≤ ps.length := by
  obtain ⟨i, hi⟩ := ex_bit hq
  obtain ⟨p, hp, hpi⟩ := (h.all i).1 (inB_iff.1 hqs i hi)
  have hne : (p &&& q == 0) = false := by
    rw [beq_eq_false_iff_ne]
    intro e
    have := and_zero.1 e i hpi
    rw [hi] at this; cases this
  unfold unitP
  rw [List.length_append, List.length_singleton]
  exact List.length_filter_lt_length_iff_exists.2 ⟨p, hp, by rw [hne]; simp⟩
theorem joinS_len {s : Nat} {ps : List Nat} (h : IsPart s ps) (t : T3) : (joinS s ps t).length ≤ ps.length := by
  unfold joinS
  cases hc : inB (abcOf t) s
  · exact Nat.le_refl _
  · refine unit_len h (abOf_ne t) (inB_iff.2 fun i hi => inB_iff.1 hc i ?_)
    unfold abcOf
    rw [Nat.testBit_or, hi]; rfl
theorem sing_len (s : Nat) : (singL s).length ≤ 9 := by
  unfold singL bitsL
  rw [List.length_map]
  have := List.length_filter_le (fun i => s.testBit i) (List.range 9)
  rw [List.length_range] at this
  exact this
theorem join_len {s : Nat} (hs : s < 512) (l : List T3) : (joinP l s).length ≤ 9 := by
  have : ∀ (l : List T3) ps, IsPart s ps → (l.foldl (joinS s) ps).length ≤ ps.length := by
    intro l
    induction l with
    | nil => intro ps _; exact Nat.le_refl _
    | cons t l ih => intro ps h; exact Nat.le_trans (ih _ (join_step h t)) (joinS_len h t)
  exact Nat.le_trans (this l _ (sing_part hs)) (sing_len s)
theorem join_lt {s : Nat} (hs : s < 512) (l : List T3) : ∀ p ∈ joinP l s, p < 512 := fun p hp => Nat.lt_of_le_of_lt (inB_le ((join_part hs l).sub hp)) hs
theorem joinP_succ {l : List T3} {k : Nat} (s : Nat) (h : k < l.length) : joinP (l.take (k + 1)) s = joinS s (joinP (l.take k) s) (tth l k) := by
  unfold joinP
  rw [List.take_succ_eq_append_getElem h, List.foldl_append, tth_get h]; rfl
theorem sing_step {z : Nat} (hz : z < 512) (h0 : 0 < z) : singL z = pw (lowB z) :: singL (z &&& (z - 1)) := by
  unfold singL
  rw [(bits_step z hz h0).1]; rfl
/-- A triple of three beasts below 9, as numbers. -/
def OkT (t : T3) : Prop := ∃ x y z : Nat, t = ((x : Int), (y : Int), (z : Int)) ∧ x < 9 ∧ y < 9 ∧ z < 9
theorem okT_of {n : Int} {t : T3} (h : isT n t = true) (hn : n ≤ 8) : OkT t := by
  unfold isT beaB at h
  simp only [Bool.and_eq_true, decide_eq_true_eq] at h
  obtain ⟨a, b, c⟩ := t
  dsimp only at h
  exact ⟨a.toNat, b.toNat, c.toNat, by simp only [Prod.mk.injEq]; omega, by omega, by omega, by omega⟩
def elS (ps : List Nat) : List El := ps.map fun (p : Nat) => (p, Value.int .i64 (p : Int))
theorem cE_elS (ps : List Nat) : cE (elS ps) = lN ps := by simp [cE, elS, lN]
theorem setE_elS (ps : List Nat) : SetE (elS ps) := fun e he => by
  obtain ⟨p, _, rfl⟩ := List.mem_map.1 he
  rfl
theorem sorted_sets {M : List El} {ps : List Nat} (hp : M.Perm (elS ps)) (hs : SortedE M) : cE M = lN (sortN ps) ∧ M.length = (sortN ps).length := by
  have hps : (M.map (·.1)).Perm ps := by
    have := hp.map (·.1)
    rwa [show (elS ps).map (·.1) = ps by unfold elS; rw [List.map_map]; exact List.map_id ps] at this
  have e : sortN ps = M.map (·.1) := sortN_one hps (by rw [List.pairwise_map]; exact sortedE_pair.1 hs)
  rw [e]
  refine ⟨?_, by simp⟩
  unfold cE lN
  rw [List.map_map]
  exact List.map_congr_left fun x hx => (setE_elS ps).perm hp x hx
theorem Kb2 (w : World) (x y : Obj) : Below w.heap.size w ((w.alloc x).alloc y) := b2 w x y
set_option maxRecDepth 100000 in
set_option maxHeartbeats 4000000 in
theorem joined_any (a : Option Addr) (l c s : Nat) (L : List T3) (w : World) (h : Trips w a L) (hl : L.length = l) (hl9 : l ≤ 1000) (hok : ∀ t ∈ L, OkT t) (hs : s < 512) (hs0 : 0 < s) (hT : Tab w) :
    Calls Tryz.prog 31 #[.slice a l c, .int .i64 (s : Nat)] w (NewS (partsL L s) w) := by
  obtain ⟨i0, hi, hz0, hz1, hz2⟩ := info_parts infoSet
  have G0 := Lib.hid hi
  have G1 := Lib.hid hz0
  have G2 := Lib.hid hz1
  have G3 := Lib.hid hz2
  clear hi hz0 hz1 hz2
  have hTr := Lib.hid h
  have hnn := Lib.hid hl
  replace hok := Lib.hid hok
  replace hT := Lib.hid hT
  have hsl := Lib.hid (sing_len s)
  obtain ⟨sg, hsg⟩ : ∃ x, Hid (singL s = x) := ⟨_, Lib.hid rfl⟩
  rw [hsg.out] at hsl
  clear h hl
  go_enter Tryz.func31, Tryz.ntmps31
  go_wp2
  go_loopw [5, 6] (fun v i wr => ∃ (z : Nat) (P : List Nat), z < 512 ∧ i = .int .i64 z ∧ P ++ singL z = sg ∧ wr.ownsRow w.heap.size 60 1 v P.length (lN P) ∧ Below w.heap.size w wr) (fun _ i _ => (intOf i).toNat)
  case atStart => exact ⟨s, [], hs, rfl, hsg.out, World.ownsRow_nil _ _ _ _, Below.refl _ _⟩
  case round =>
    obtain ⟨z, P, hz, rfl, hP, hown, B0⟩ := hrel
    by_cases hz0 : 0 < z
    · have s1 := sing_step hz hz0
      obtain ⟨_, s2, s3⟩ := bits_step z hz hz0
      have hne : ((z : Int) != 0) = true := by rw [bne_iff_ne]; omega
      have hsu : IntKind.i64.wrap ((z : Int) - 1) = ((z - 1 : Nat) : Int) := by rw [IntWalk.i64_in _ (by omega)]; omega
      have han := i64_and_nat z (z - 1) (by omega) (by omega)
      have hLl : P.length < 9 := by
        have := hsl.out
        rw [← hP, List.length_append, s1, List.length_cons] at this
        omega
      have hL2 : Hid ((P ++ [pw (lowB z)]) ++ singL (z &&& (z - 1)) = sg) := Lib.hid (by rw [← hP, s1, List.append_assoc]; rfl)
      have C := Lib.hid (fun W hW => least_any z hz hz0 W hW)
      have C2 := Lib.hid (fun W => beastBeasts_any (lowB z) (by omega) W)
      generalize pw (lowB z) = pb at *
      generalize lowB z = b at *
      generalize z &&& (z - 1) = z' at *
      replace hP := Lib.hid hP
      replace s1 := Lib.hid s1
      have hT1 := Lib.hid (hT.out.next B0)
      go_wp2_with (first
        | (go_at_call 45; refine (C.out _ hT1.out).mono ?_; rintro e w2 ⟨rfl, rfl⟩)
        | (go_at_call 48; refine (C2.out _).mono ?_; rintro e w2 ⟨rfl, rfl⟩)
        | (at_builtin; refine wpList_append_own _ rfl _ _ 64 rfl w.heap.size 60 i0 (.int .i64 0) 1 8 Tryz.underlying64 G0.out G1.out G2.out G3.out rfl (by decide) _ _ _ rfl (hown.alloc _) ⟨_, 0, none⟩ 1 1 [.int .i64 (pb : Int)] rfl rfl (cell_one_new _ _ _) (by simp [Value.oneCell']) (by unfold maxLen; omega) (by omega) (by have := B0.size; simp; omega) ?_; intro v' w2 hown2 hgrow _))
      have hs2 := B0.size
      have B2 := (B0.alloc hs2 _).grown hgrow (by simp; omega) (fun q hq => by have := (hown.lt q hq).1; omega)
      go_roundw
      case rel => exact ⟨z', P ++ [pb], by omega, rfl, hL2.out, by rw [List.length_append, lN_snoc]; exact hown2, B2⟩
      case measure => simp [intOf]; omega
    · obtain rfl : z = 0 := by omega
      have h0 : singL 0 = [] := by decide
      rw [h0, List.append_nil, ← hsg.out] at hP
      subst hP
      clear hsl hsg
      replace h0 := Lib.hid h0
      rw [show ((0 : Nat) : Int) = 0 from rfl]
      go_wp2
      go_loopw [5, 24] (fun v i wr => ∃ k : Nat, k ≤ l ∧ i = .int .i64 k ∧ wr.ownsRow w.heap.size 60 1 v (joinP (L.take k) s).length (lN (joinP (L.take k) s)) ∧ Below w.heap.size w wr) (fun _ i _ => l - (intOf i).toNat)
      case atStart => exact ⟨0, Nat.zero_le _, rfl, hown, B0⟩
      case round =>
        clear hown B0
        obtain ⟨k, hk, rfl, hown, B0⟩ := hrel
        have hpl := join_len hs (L.take k)
        have hpt := Lib.hid (join_lt hs (L.take k))
        by_cases hlt : k < l
        · have hkl : k < L.length := by rw [hnn.out]; exact hlt
          obtain ⟨b, off, rfl, hc⟩ := trips_at (hTr.out.next B0) (by omega)
          obtain ⟨z0, z1, z2⟩ := hc k hkl
          obtain ⟨x, y, z, et, hx, hy, hz⟩ := hok.out _ (tth_mem hkl)
          have eS := joinP_succ s hkl
          rw [et] at z0 z1 z2 eS
          dsimp only at z0 z1 z2
          replace et := Lib.hid et
          have hki : (k : Int) < (l : Int) := by omega
          clear hc
          have eJ : joinS s (joinP (L.take k) s) ((x : Int), (y : Int), (z : Int)) = if inB (pw x ||| pw y ||| pw z) s then unitP (joinP (L.take k) s) (pw x ||| pw y) else joinP (L.take k) s := rfl
          rw [eJ] at eS
          replace eS := Lib.hid eS
          clear eJ
          have hxy : pw x ||| pw y < 512 := Nat.or_lt_two_pow (n := 9) (pw_lt (k := 9) hx) (pw_lt (k := 9) hy)
          have hxyz : pw x ||| pw y ||| pw z < 512 := Nat.or_lt_two_pow (n := 9) hxy (pw_lt (k := 9) hz)
          have H := Lib.hid (fun W => has_any s (pw x ||| pw y ||| pw z) hs hxyz W)
          have w1 : ∃ W, W = wr.alloc (.cells #[.int .i64 (x : Int), .int .i64 (y : Int), .int .i64 (z : Int)] 36) := ⟨_, rfl⟩
          clear w1
          have hA := (Blk.new wr 36 #[.int .i64 (x : Int), .int .i64 (y : Int), .int .i64 (z : Int)]).alloc (.cells #[.int .i64 (x : Int), .int .i64 (y : Int), .int .i64 (z : Int)] 3)
          have a0 := hA.c 0 rfl
          have a1 := hA.c 1 rfl
          have hB : Blk ((wr.alloc (.cells #[.int .i64 (x : Int), .int .i64 (y : Int), .int .i64 (z : Int)] 36)).alloc (.cells #[.int .i64 (x : Int), .int .i64 (y : Int), .int .i64 (z : Int)] 3)) (wr.heap.size + 1) 3 #[.int .i64 (x : Int), .int .i64 (y : Int), .int .i64 (z : Int)] := by
            have := Blk.new (wr.alloc (.cells #[.int .i64 (x : Int), .int .i64 (y : Int), .int .i64 (z : Int)] 36)) 3 #[.int .i64 (x : Int), .int .i64 (y : Int), .int .i64 (z : Int)]
            simpa using this
          have S3 := Lib.hid (setWith3 _ _ 3 x y z hB hx hy hz)
          have b2 := Lib.hid (nextB B0 (b2 wr (.cells #[.int .i64 (x : Int), .int .i64 (y : Int), .int .i64 (z : Int)] 36) (.cells #[.int .i64 (x : Int), .int .i64 (y : Int), .int .i64 (z : Int)] 3)))
          have ow2 := Lib.hid (owns_next hown (Kb2 wr (.cells #[.int .i64 (x : Int), .int .i64 (y : Int), .int .i64 (z : Int)] 36) (.cells #[.int .i64 (x : Int), .int .i64 (y : Int), .int .i64 (z : Int)] 3)))
          cases hin : inB (pw x ||| pw y ||| pw z) s
          · rw [hin] at H eS
            clear hA hB a0 a1 hown
            generalize joinP (L.take k) s = jp at *
            generalize pw x ||| pw y ||| pw z = q3 at *
            go_wp2_with (first
              | (go_at_call 38; (with_reducible refine S3.out.mono ?_); rintro e w3 ⟨rfl, rfl⟩)
              | (go_at_call 49; (with_reducible refine (H.out _).mono ?_); rintro e w3 ⟨rfl, rfl⟩))
            go_roundw
            case rel => exact ⟨k + 1, by omega, by go_num, by rw [eS.out]; exact ow2.out, b2.out⟩
            case measure => simp [intOf]; omega
          · rw [hin] at H eS
            simp only [if_true] at eS
            have hC : Blk (((wr.alloc (.cells #[.int .i64 (x : Int), .int .i64 (y : Int), .int .i64 (z : Int)] 36)).alloc (.cells #[.int .i64 (x : Int), .int .i64 (y : Int), .int .i64 (z : Int)] 3)).alloc (.cells #[.int .i64 (x : Int), .int .i64 (y : Int)] 3)) (wr.heap.size + 1 + 1) 3 #[.int .i64 (x : Int), .int .i64 (y : Int)] := by
              have := Blk.new ((wr.alloc (.cells #[.int .i64 (x : Int), .int .i64 (y : Int), .int .i64 (z : Int)] 36)).alloc (.cells #[.int .i64 (x : Int), .int .i64 (y : Int), .int .i64 (z : Int)] 3)) 3 #[.int .i64 (x : Int), .int .i64 (y : Int)]
              simpa using this
            have S2 := Lib.hid (setWith2 _ _ 2 x y hC hx hy)
            have b3 := Lib.hid (nextB b2.out (b1 _ (.cells #[.int .i64 (x : Int), .int .i64 (y : Int)] 3)))
            obtain ⟨pa, pc, rfl, hpc, hSt⟩ := own_sets (owns_next ow2.out (b1 _ (.cells #[.int .i64 (x : Int), .int .i64 (y : Int)] 3))) rfl
            have U := Lib.hid (united_any pa _ pc (pw x ||| pw y) (joinP (L.take k) s) _ hSt rfl (by omega) hxy hpt.out)
            clear hA hB hC hown hSt hpt
            generalize unitP (joinP (L.take k) s) (pw x ||| pw y) = up at *
            generalize joinP (L.take k) s = jp at *
            generalize pw x ||| pw y ||| pw z = q3 at *
            generalize pw x ||| pw y = q2 at *
            go_wp2_with (first
              | (go_at_call 38; (with_reducible refine S3.out.mono ?_); rintro e w3 ⟨rfl, rfl⟩)
              | (go_at_call 38; (with_reducible refine S2.out.mono ?_); rintro e w3 ⟨rfl, rfl⟩)
              | (go_at_call 49; (with_reducible refine (H.out _).mono ?_); rintro e w3 ⟨rfl, rfl⟩)
              | (go_at_call 50; (with_reducible refine U.out.mono ?_); rintro e w3 ⟨v3, rfl, hown3, hb3⟩; replace hown3 := Lib.hid hown3; replace hb3 := Lib.hid hb3))
            go_roundw
            case rel => exact ⟨k + 1, by omega, by go_num, by rw [eS.out]; exact owns_base hown3.out (b3.out.size), nextB b3.out hb3.out⟩
            case measure => simp [intOf]; omega
        · obtain rfl : k = l := by omega
          have e : L.take k = L := by rw [← hnn.out, List.take_length]
          rw [e] at hown hpl
          have hne : 0 < (joinP L s).length := by
            refine Nat.pos_of_ne_zero fun h0 => ?_
            obtain ⟨i, hi⟩ := ex_bit (show s ≠ 0 by omega)
            obtain ⟨p, hp, _⟩ := ((join_part hs L).all i).1 hi
            rw [List.length_eq_zero_iff.1 h0] at hp
            cases hp
          obtain ⟨g, cap, rfl⟩ := own_pos hown hne
          have hg := (hown.lt g rfl).1
          have S := Lib.hid (sortS_any w.heap.size g (joinP L s).length cap (elS (joinP L s)) wr (by simp [elS]) (by omega) hg (setE_elS _) (by rw [cE_elS]; exact hown))
          have E := Lib.hid (fun M (hp : M.Perm (elS (joinP L s))) (hs : SortedE M) => sorted_sets hp hs)
          have EL := Lib.hid (fun (M : List El) (hp : M.Perm (elS (joinP L s))) => show M.length = (joinP L s).length by rw [hp.length_eq]; simp [elS])
          replace e := Lib.hid e
          change Hid (∀ M, M.Perm (elS (joinP L s)) → SortedE M → cE M = lN (partsL L s) ∧ M.length = (partsL L s).length) at E
          clear hown hne hpt
          generalize partsL L s = pl at *
          generalize elS (joinP L s) = el at *
          generalize (joinP L s).length = jl at *
          go_wp2_with (go_at_call 51; (with_reducible refine S.out.mono ?_); rintro e w3 ⟨rfl, M, hp, hso, hown3, hb3⟩; replace hown3 := Lib.hid hown3; replace hb3 := Lib.hid hb3; replace hp := Lib.hid hp; replace hso := Lib.hid hso)
          go_ret
          obtain ⟨e1, e2⟩ := E.out M hp.out hso.out
          have e3 := EL.out M hp.out
          refine ⟨_, rfl, ?_, B0.trans hb3.out⟩
          rw [← e2, e3, ← e1]
          exact hown3.out
end Go.Proofs.YtfdaljekehkkaaaGreatDoor
