/- Layer 5: BreedClosure returns true, and changes nothing. -/
import Derived.Test.YtfdaljekehkkaaaGreatDoorUb
import Derived.Test.YtfdaljekehkkaaaGreatDoorJa
namespace Go.Proofs.YtfdaljekehkkaaaGreatDoor
open Go Go.RowKit

theorem own_mtC (W : World) (base : Nat) (h : base ≤ W.heap.size) : (W.alloc (.cells #[] 36)).ownsRow base 36 3 (.slice (some ⟨W.heap.size, 0, none⟩) 0 0) 0 (cT []) := World.ownsRow_made W #[] 0 h (by decide) rfl
theorem memE_of {m : Nat} {L : List T3} (h1 : 1 ≤ m) (h8 : m ≤ 8) (hl : L.length ≤ 60) (h : ∀ t ∈ L, isT m t = true) : memE (m : Int) L = 0 := by
  have e : numB (m : Int) = true := by unfold numB; rw [decide_eq_true (by omega), decide_eq_true (by omega)]; rfl
  unfold memE
  rw [e, if_neg (by simp), if_neg (by omega), if_pos (List.all_eq_true.2 h)]
theorem lisE_all {n : Int} {L : List T3} (hl : L.length ≤ 60) (h : lisE n L = 0) : ∀ t ∈ L, isT n t = true := by
  unfold lisE at h
  rw [if_neg (by omega)] at h
  split at h
  · rename_i h1; exact List.all_eq_true.1 h1
  · omega
theorem cloE_is {m : Nat} {L : List T3} (h : memE (m : Int) L = 0) : cloE (m : Int) L = if (bldT m L).isSome then (cloL m L, 0) else ([], 10) := by
  cases hb : bldT m L with
  | none => exact cloE_none h hb
  | some t => exact cloE_some h hb
theorem bldE_two {m : Nat} {L : List T3} (h : memE (m : Int) L = 0) : (bldE (m : Int) L).2 = if (bldT m L).isSome then 0 else 10 := by
  unfold bldE
  rw [if_pos h, Int.toNat_natCast]
  cases bldT m L <;> rfl
theorem all_three {m : Nat} (h3 : 3 ≤ m) (h8 : m ≤ 8) : 0 < (allL m).length := by
  refine List.length_pos_of_mem (a := (((0 : Nat) : Int), ((1 : Nat) : Int), ((2 : Nat) : Int))) (all_mem h8 ?_)
  unfold isT beaB
  simp
  omega
theorem clo_val {m : Nat} {L : List T3} (x : T3) (h0 : memE (m : Int) (L ++ [oth0 x]) = 0) (h1 : memE (m : Int) (L ++ [oth1 x]) = 0) (hx : x ∈ allL m) :
    decide (x ∈ cloL m L) = (((bldE (m : Int) (L ++ [oth0 x])).2 != 0) && ((bldE (m : Int) (L ++ [oth1 x])).2 != 0)) := by
  rw [bldE_two h0, bldE_two h1]
  have e : decide (x ∈ cloL m L) = inClo m L x := by
    rw [Bool.eq_iff_iff, decide_eq_true_eq]
    unfold cloL
    rw [List.mem_filter]
    exact ⟨fun h => h.2, fun h => ⟨hx, h⟩⟩
  rw [e]
  have f := clo_of (m := m) (L := L) (x := x)
  cases hb0 : bldT m (L ++ [oth0 x]) <;> cases hb1 : bldT m (L ++ [oth1 x]) <;> rw [hb0, hb1] at f <;> cases hc : inClo m L x <;> rw [hc] at f <;> simp at f ⊢
set_option maxRecDepth 100000 in
set_option maxHeartbeats 32000000 in
theorem closureLaw_any (n : Int) (a : Option Addr) (l c : Nat) (L : List T3) (wh : Nat) (w : World) (h : Trips w a L) (hl : L.length = l) (_ : l ≤ c) (hnil : a = none → c = 0) (hwh : wh ≤ 65535) (hT : Tab w) :
    Calls Tryz.prog 4 #[.int .i64 n, .slice a l c, .int .u16 (wh : Nat)] w (Ret (.bool true) w) := by
  have C := Lib.hid (fun W (hW : Below w.heap.size w W) => alive_any W (hT.next hW))
  have B5 : Below w.heap.size w w := Below.refl _ _
  have hcv : IntKind.i64.wrap (wh : Int) = (wh : Int) := IntWalk.i64_in _ (by omega)
  by_cases hl60 : 60 ≤ l
  · have hi : (60 : Int) ≤ (l : Int) := by omega
    clear h hl hT hnil
    go_enter Tryz.func4, Tryz.ntmps4
    go_wp2_with (go_at_call 6; refine (C.out _ B5).mono ?_; rintro e w4 ⟨rfl, hb4⟩)
    go_ret
    exact Ret.mk rfl hb4
  · have hi : ¬ (60 : Int) ≤ (l : Int) := by omega
    by_cases hn3 : n < 3
    · clear h hl hT hnil
      go_enter Tryz.func4, Tryz.ntmps4
      go_wp2_with (go_at_call 6; refine (C.out _ B5).mono ?_; rintro e w4 ⟨rfl, hb4⟩)
      go_ret
      exact Ret.mk rfl hb4
    · by_cases hn8 : 8 < n
      · clear h hl hT hnil
        go_enter Tryz.func4, Tryz.ntmps4
        go_wp2_with (go_at_call 6; refine (C.out _ B5).mono ?_; rintro e w4 ⟨rfl, hb4⟩)
        go_ret
        exact Ret.mk rfl hb4
      · have LI := Lib.hid (refList_any n a l c L w h hl (by omega))
        obtain ⟨e, he⟩ : ∃ e, lisE n L = e := ⟨_, rfl⟩
        rw [he] at LI
        by_cases h0 : e = 0
        · subst h0
          obtain ⟨m, rfl⟩ : ∃ m : Nat, n = (m : Int) := ⟨n.toNat, by omega⟩
          have hok := lisE_all (by omega) he
          have hM : Mem m L := ⟨by omega, by omega, hok⟩
          have hmem := memE_of (m := m) (L := L) (by omega) (by omega) (by omega) hok
          have K1 := Lib.hid (fun W (hW : Below w.heap.size w W) => Closure_any (m : Int) a l c L W (h.next hW) hl (by omega) hnil (hT.next hW))
          have K2 := Lib.hid (fun W (hW : Below w.heap.size w W) => Build_any (m : Int) a l c L W (h.next hW) hl (by omega) (hT.next hW))
          rw [cloE_is hmem] at K1
          rw [bldE_two hmem] at K2
          generalize (bldE (m : Int) L).1 = s1 at *
          cases hb : bldT m L with
          | none =>
            rw [hb] at K1 K2
            simp only [Option.isSome_none, Bool.false_eq_true, if_false] at K1 K2
            clear h hl hT hnil hok hM hmem hb he
            go_enter Tryz.func4, Tryz.ntmps4
            go_wp2_with (go_at_call 10; refine LI.out.mono ?_; rintro e w1 ⟨rfl, hb1⟩)
            refine (K1.out _ hb1).mono ?_
            rintro e w2 ⟨v2, rfl, ho2, hb2⟩
            dsimp only at ho2 ⊢
            obtain ⟨a2, c2, rfl, _, _, _⟩ := own_tripsA ho2 rfl
            have B2 := nextB hb1 hb2
            clear ho2 hb2 hb1
            go_wp2_with fail
            refine (K2.out _ B2).mono ?_
            rintro e w3 ⟨rfl, hb3⟩
            dsimp only
            have B3 := nextB B2 hb3
            clear hb3 B2
            go_wp2_with (go_at_call 6; refine (C.out _ B3).mono ?_; rintro e w4 ⟨rfl, hb4⟩)
            go_ret
            exact Ret.mk rfl (nextB B3 hb4)
          | some tr =>
            rw [hb] at K1 K2
            simp only [Option.isSome_some, if_true] at K1 K2
            have hown := Lib.hid (fun x (hx : x ∈ L) => cloL_own hM hx)
            have hlen : (cloL m L).length ≤ 600 := by
              have := cloE_len (m : Int) L
              rw [cloE_is hmem, hb] at this
              exact this
            have K3 := Lib.hid (fun a' c' (hq : (cloL m L).length ≤ 60) (hn' : a' = none → c' = 0) W (hW : Below w.heap.size w W) (hTr : Trips W a' (cloL m L)) => (show Calls Tryz.prog 7 #[.int .i64 (m : Nat), .slice a' (cloL m L).length c'] W (CloR (cloL m L, 0) W) from by
              have hM2 := cloL_tri hM
              have := Closure_any (m : Int) a' (cloL m L).length c' (cloL m L) W hTr rfl (by omega) hn' (hT.next hW)
              rw [cloE_is (memE_of hM2.one hM2.eight hq hM2.tri), if_pos (cloL_some hM hb), cloL_twice hM] at this
              exact this))
            have AL := Lib.hid (fun W => refAll_any m (by omega) W)
            have OT := Lib.hid (fun t W => refOthers_any t W)
            have BU := Lib.hid (fun x a' c' W (hW : Below w.heap.size w W) (hTr : Trips W a' (L ++ [x])) => Build_any (m : Int) a' (l + 1) c' (L ++ [x]) W hTr (by rw [List.length_append, List.length_singleton, hl]) (by omega) (hT.next hW))
            have hv := Lib.hid (fun x (hx : x ∈ allL m) => clo_val (m := m) (L := L) x (memE_of (by omega) (by omega) (by rw [List.length_append, List.length_singleton]; omega) (fun t ht => by
              rcases List.mem_append.1 ht with h1 | h1
              · exact hok t h1
              · rw [List.mem_singleton] at h1; rw [h1]; exact (oth_tri (all_tri (by omega) x hx)).1)) (memE_of (by omega) (by omega) (by rw [List.length_append, List.length_singleton]; omega) (fun t ht => by
              rcases List.mem_append.1 ht with h1 | h1
              · exact hok t h1
              · rw [List.mem_singleton] at h1; rw [h1]; exact (oth_tri (all_tri (by omega) x hx)).2)) hx)
            have hA0 := all_three (m := m) (by omega) (by omega)
            have hA9 : (allL m).length ≤ 512 := by
              have := rowA_len (n := m) (by omega) m
              change (allL m).length ≤ m * 64 at this
              omega
            have IN := Lib.hid (fun a' c' t W (hTr : Trips W a' (cloL m L)) => in_any a' (cloL m L).length c' (cloL m L) t W hTr rfl (by omega))
            have SM := Lib.hid (fun a1 c1 a2 c2 W (h1 : Trips W a1 (cloL m L)) (h2 : Trips W a2 (cloL m L)) => same_eq a1 a2 (cloL m L).length c1 c2 (cloL m L) W h1 h2 rfl (by omega))
            have hI := Lib.hid (fun W (hW : Below w.heap.size w W) => h.next hW)
            have hlL := Lib.hid hl
            have hnil' := Lib.hid hnil
            clear h hl hT hnil hok hM hmem hb he
            generalize cloL m L = CL at *
            generalize hTA : allL m = TA at *
            generalize hq : CL.length = q at *
            generalize hqa : TA.length = qa at *
            replace hTA := Lib.hid hTA
            replace hq := Lib.hid hq
            replace hqa := Lib.hid hqa
            replace hnil := hnil'
            obtain ⟨ix, hix⟩ : ∃ ix, wh % qa = ix := ⟨_, rfl⟩
            have hixl : ix < qa := by rw [← hix]; exact Nat.mod_lt _ hA0
            have hrem : (wh : Int).tmod (qa : Int) = (ix : Int) := by rw [Int.tmod_eq_emod_of_nonneg (by omega), ← hix]; exact (Int.natCast_emod _ _).symm
            have hpz : ((qa : Int) == 0) = false := by rw [beq_eq_false_iff_ne]; omega
            clear hix
            go_enter Tryz.func4, Tryz.ntmps4
            go_wp2_with (go_at_call 10; refine LI.out.mono ?_; rintro e w1 ⟨rfl, hb1⟩)
            refine (K1.out _ hb1).mono ?_
            rintro e w2 ⟨v2, rfl, ho2, hb2⟩
            dsimp only at ho2 ⊢
            rw [hq.out] at ho2
            obtain ⟨a2, c2, rfl, _, hC2, hn2⟩ := own_tripsA ho2 hq.out
            have B2 := nextB hb1 hb2
            clear ho2 hb2 hb1 LI K1
            go_wp2_with fail
            refine (K2.out _ B2).mono ?_
            rintro e w3 ⟨rfl, hb3⟩
            dsimp only
            have B3 := nextB B2 hb3
            have hC3 := Lib.hid (fun W (hW : Below w3.heap.size w3 W) => (hC2.next hb3).next hW)
            clear hb3 B2 K2 hC2
            go_wp2
            go_loopw [11] (fun i wr => ∃ k : Nat, k ≤ l ∧ i = .int .i64 k ∧ Below w3.heap.size w3 wr) (fun i _ => l - (intOf i).toNat)
            case atStart => exact ⟨0, Nat.zero_le _, rfl, Below.refl _ _⟩
            case round =>
              obtain ⟨k, hk, rfl, D0⟩ := hrel
              by_cases hlt : k < l
              · have hkl : k < L.length := by rw [hlL.out]; exact hlt
                have hki : (k : Int) < (l : Int) := by omega
                obtain ⟨b, off, rfl, hc⟩ := trips_at (hI.out _ (nextB B3 D0)) (by omega)
                obtain ⟨z0, z1, z2⟩ := hc k hkl
                have IK := Lib.hid (IN.out a2 c2 (tth L k) wr (hC3.out _ D0))
                rw [decide_eq_true (hown.out _ (tth_mem hkl))] at IK
                clear hc
                generalize tth L k = t at *
                obtain ⟨t0, t1, t2⟩ := t
                dsimp only at z0 z1 z2
                go_wp2_with (go_at_call 12; (with_reducible refine IK.out.mono ?_); rintro e w4 ⟨rfl, hb4⟩)
                go_roundw
                case rel => exact ⟨k + 1, by omega, by go_num, nextB D0 hb4⟩
                case measure => simp [intOf]; omega
              · have hki : ¬ ((k : Int) < (l : Int)) := by omega
                have hkl2 : k = l := by omega
                by_cases h60 : q ≤ 60
                · have h60i : (q : Int) ≤ 60 := by omega
                  have K4 := Lib.hid (K3.out a2 c2 h60 hn2)
                  clear K3
                  go_wp2_with fail
                  refine (K4.out _ (nextB B3 D0) (hC3.out _ D0)).mono ?_
                  rintro e w5 ⟨v5, rfl, ho5, hb5⟩
                  dsimp only at ho5 ⊢
                  rw [hq.out] at ho5
                  obtain ⟨a5, c5, rfl, _, hC5, _⟩ := own_tripsA ho5 hq.out
                  have D5 := nextB D0 hb5
                  have S5 := Lib.hid (SM.out a5 c5 a2 c2 w5 hC5 (hC3.out _ D5))
                  clear ho5 hC5 hb5 K4 D0
                  go_wp2_with fail
                  refine S5.out.mono ?_
                  rintro e w6 ⟨rfl, hb6⟩
                  dsimp only
                  have D6 := nextB D5 hb6
                  clear hb6 S5 D5
                  go_wp2_with fail
                  refine (AL.out _).mono ?_
                  rintro e w7 ⟨v7, rfl, ho7, hb7⟩
                  dsimp only
                  rw [hqa.out] at ho7
                  obtain ⟨a7, c7, rfl, _, hC7, _⟩ := own_tripsA ho7 hqa.out
                  have D7 := nextB D6 hb7
                  clear ho7 hb7 D6
                  have hixL : ix < TA.length := by rw [hqa.out]; exact hixl
                  obtain ⟨b7, off7, rfl, hc7⟩ := trips_at hC7 (by omega)
                  obtain ⟨z0, z1, z2⟩ := hc7 ix hixL
                  have hvx := Lib.hid (hv.out _ (tth_mem hixL))
                  have INx := Lib.hid (fun W (hW : Below w3.heap.size w3 W) => IN.out a2 c2 (tth TA ix) W (hC3.out _ hW))
                  clear hc7 hC7 hv IN hown AL SM
                  generalize tth TA ix = t at *
                  rw [hvx.out] at INx
                  clear hvx
                  have bt1 := b1 w7 (.cells #[.int .i64 t.1, .int .i64 t.2.1, .int .i64 t.2.2] 36)
                  have hBt := Blk.new w7 36 #[.int .i64 t.1, .int .i64 t.2.1, .int .i64 t.2.2]
                  go_wp2_with fail
                  generalize w7.alloc (.cells #[.int .i64 t.1, .int .i64 t.2.1, .int .i64 t.2.2] 36) = x7 at *
                  have D8 := nextB D7 bt1
                  clear z0 z1 z2 bt1 D7
                  obtain ⟨gt0, hgt0'⟩ : ∃ gt0, w7.heap.size = gt0 := ⟨_, rfl⟩
                  rw [hgt0'] at hBt ⊢
                  clear hgt0'
                  refine (OT.out t _).mono ?_
                  rintro e w8 ⟨rfl, hb8⟩
                  dsimp only
                  have D9 := nextB D8 hb8
                  have hBt8 := hBt.ext hb8
                  have bt2 := b1 w8 (.cells (c6 (oth0 t) (oth1 t)) 38)
                  have hO := Blk.new w8 38 (c6 (oth0 t) (oth1 t))
                  have hBt9 := hBt8.alloc (.cells (c6 (oth0 t) (oth1 t)) 38)
                  have D10 := Lib.hid (nextB D9 bt2)
                  clear hBt hBt8 bt2 D9 D8 hb8 OT
                  have B0' := BU.out (oth0 t)
                  have B1' := BU.out (oth1 t)
                  generalize (bldE (m : Int) (L ++ [oth0 t])).1 = r0 at *
                  generalize (bldE (m : Int) (L ++ [oth0 t])).2 = e0 at *
                  generalize (bldE (m : Int) (L ++ [oth1 t])).1 = r1 at *
                  generalize (bldE (m : Int) (L ++ [oth1 t])).2 = e1 at *
                  replace B0' := Lib.hid B0'
                  replace B1' := Lib.hid B1'
                  clear BU
                  have BW0 := Lib.hid (nextB B3 D10.out)
                  go_wp2_with fail
                  change Code.wp _ _ _ _ (w8.alloc (.cells (c6 (oth0 t) (oth1 t)) 38))
                  generalize w8.alloc (.cells (c6 (oth0 t) (oth1 t)) 38) = W0 at *
                  generalize w8.heap.size = g at *
                  have PU0 := Lib.hid (fun W (hW : Below W0.heap.size W0 W) => show W.cell? ⟨g, 0, none⟩ = some (.int .i64 (oth0 t).1) ∧ W.cell? ⟨g, 1, none⟩ = some (.int .i64 (oth0 t).2.1) ∧ W.cell? ⟨g, 2, none⟩ = some (.int .i64 (oth0 t).2.2) from ⟨(hO.ext hW).c 0 rfl, (hO.ext hW).c 1 rfl, (hO.ext hW).c 2 rfl⟩)
                  have PU1 := Lib.hid (fun W (hW : Below W0.heap.size W0 W) => show W.cell? ⟨g, 3, none⟩ = some (.int .i64 (oth1 t).1) ∧ W.cell? ⟨g, 4, none⟩ = some (.int .i64 (oth1 t).2.1) ∧ W.cell? ⟨g, 5, none⟩ = some (.int .i64 (oth1 t).2.2) from ⟨(hO.ext hW).c 3 rfl, (hO.ext hW).c 4 rfl, (hO.ext hW).c 5 rfl⟩)
                  have PT := Lib.hid (fun W (hW : Below W0.heap.size W0 W) => show W.cell? ⟨gt0, 0, none⟩ = some (.int .i64 t.1) ∧ W.cell? ⟨gt0, 1, none⟩ = some (.int .i64 t.2.1) ∧ W.cell? ⟨gt0, 2, none⟩ = some (.int .i64 t.2.2) from ⟨(hBt9.ext hW).c 0 rfl, (hBt9.ext hW).c 1 rfl, (hBt9.ext hW).c 2 rfl⟩)
                  clear hO hBt9
                  have hS : Below W0.heap.size W0 W0 := Below.refl _ _
                  refine wp_region_S (fun W => Below W0.heap.size W0 W) (by kernel_rfl) ?_
                  show wpAnyS _ _ _ _ _ (13 + 1) _ _ _
                  replace hS := hS.drew
                  generalize W0.drew = u0 at *
                  refine anyS_pure 0 (.int .i64 (m : Int)) rfl (by kernel_rfl) (by kernel_rfl) (by kernel_rfl) (fun _ _ _ h => h) (by rfl) (fun W hW => by go_simp) hS ?_
                  refine anyS_pure 2 (.slice a l c) rfl (by kernel_rfl) (by kernel_rfl) (by kernel_rfl) (fun _ _ _ h => h) (by rfl) (fun W hW => by go_simp) hS ?_
                  refine anyS_pure 4 (.pointer (some ⟨g, 0, none⟩)) rfl (by kernel_rfl) (by kernel_rfl) (by kernel_rfl) (fun _ _ _ h => h) (by rfl) (fun W hW => by go_simp) hS ?_
                  refine anyS_pure 5 (t3V (oth0 t)) rfl (by kernel_rfl) (by kernel_rfl) (by kernel_rfl) (fun _ _ _ h => h) (by rfl) (fun W hW => by obtain ⟨y0, y1, y2⟩ := PU0.out W hW; go_simp) hS ?_
                  try simp only [Act.put, List.setIfInBounds_toArray]
                  refine anyS_two 1 6 (by kernel_rfl) rfl rfl ?_ ?_
                  · go_wp2_with fail
                    show _ ∧ _
                    have hrow := own_mtC u0 W0.heap.size hS.size
                    replace hS := hS.alloc hS.size (.cells #[] 36)
                    obtain ⟨ga, hga⟩ : ∃ ga, u0.heap.size = ga := ⟨_, rfl⟩
                    rw [hga] at hrow
                    rw [hga]
                    generalize u0.alloc (.cells #[] 36) = x1 at *
                    refine ⟨hS, ?_⟩
                    try simp only [Act.put, List.setIfInBounds_toArray]
                    refine anyS_two 3 6 (by kernel_rfl) rfl rfl ?_ ?_
                    · refine wpList_copyT rfl _ _ rfl W0.heap.size _ rfl 0 [] hrow rfl a l c L rfl (hI.out _ (nextB BW0.out hS)) hlL.out hnil.out (by omega) hS.size ?_
                      intro v1 x3 ho1 hg1
                      show _ ∧ _
                      have hrl := hrow.lt
                      replace hS := hS.grown hg1 hS.size (fun q hq => (hrl q hq).1)
                      clear hrow hg1 hrl
                      refine ⟨hS, ?_⟩
                      try simp only [Act.put, List.setIfInBounds_toArray]
                      refine anyS_one 6 (by kernel_rfl) rfl ?_
                      go_wp2_with fail
                      show _ ∧ _
                      have hTg := Blk.new x3 36 #[.int .i64 (oth0 t).1, .int .i64 (oth0 t).2.1, .int .i64 (oth0 t).2.2]
                      replace ho1 := ho1.alloc (.cells #[.int .i64 (oth0 t).1, .int .i64 (oth0 t).2.1, .int .i64 (oth0 t).2.2] 36)
                      replace hS := hS.alloc hS.size (.cells #[.int .i64 (oth0 t).1, .int .i64 (oth0 t).2.1, .int .i64 (oth0 t).2.2] 36)
                      obtain ⟨gt, hgt0⟩ : ∃ gt, x3.heap.size = gt := ⟨_, rfl⟩
                      rw [hgt0] at hTg
                      rw [hgt0]
                      generalize x3.alloc (.cells #[.int .i64 (oth0 t).1, .int .i64 (oth0 t).2.1, .int .i64 (oth0 t).2.2] 36) = x6 at *
                      refine ⟨hS, ?_⟩
                      try simp only [Act.put, List.setIfInBounds_toArray]
                      refine anyS_one 7 (by kernel_rfl) rfl ?_
                      refine wpList_copyT rfl _ _ rfl W0.heap.size _ rfl (0 + l) ([] ++ L) ho1 (by rw [List.nil_append, hlL.out, Nat.zero_add]) (some ⟨gt, 0, none⟩) 1 1 [(oth0 t)] rfl (trips_one hTg) rfl (fun h => by cases h) (by omega) hS.size ?_
                      intro v2 wz ho2 hg2
                      show _ ∧ _
                      have hrl2 := ho1.lt
                      replace hS := hS.grown hg2 hS.size (fun q hq => (hrl2 q hq).1)
                      rw [List.nil_append, Nat.zero_add] at ho2
                      obtain ⟨aw, cw, rfl, _, hTw, _⟩ := own_tripsA ho2 (by rw [List.length_append, List.length_singleton, hlL.out])
                      clear ho1 ho2 hg2 hrl2 hTg
                      refine ⟨hS, ?_⟩
                      try simp only [Act.put, List.setIfInBounds_toArray]
                      refine anyS_one 8 (by kernel_rfl) rfl ?_
                      go_wp2_with (go_at_call 11; (with_reducible refine (B0'.out _ _ _ (nextB BW0.out hS) hTw).mono ?_); rintro eq u2 ⟨rfl, hbw⟩)
                      show _ ∧ _
                      replace hS := nextB hS hbw
                      clear hbw hTw
                      refine ⟨hS, ?_⟩
                      try simp only [Act.put, List.setIfInBounds_toArray]
                      refine anyS_pure 9 (.tuple #[strV r0, .int .i64 e0]) rfl (by kernel_rfl) (by kernel_rfl) (by kernel_rfl) (fun _ _ _ h => h) (by rfl) (fun W hW => by go_simp) hS ?_
                      try simp only [Act.put]
                      refine anyS_pure 10 (strV r0) rfl (by kernel_rfl) (by kernel_rfl) (by kernel_rfl) (fun _ _ _ h => h) (by rfl) (fun W hW => by go_simp) hS ?_
                      try simp only [Act.put]
                      refine anyS_pure 11 (.int .i64 e0) rfl (by kernel_rfl) (by kernel_rfl) (by kernel_rfl) (fun _ _ _ h => h) (by rfl) (fun W hW => by go_simp) hS ?_
                      try simp only [Act.put]
                      refine anyS_pure 12 (strV r0) rfl (by kernel_rfl) (by kernel_rfl) (by kernel_rfl) (fun _ _ _ h => h) (by rfl) (fun W hW => by go_simp) hS ?_
                      try simp only [Act.put, List.setIfInBounds_toArray]
                      refine anyS_one 13 (by kernel_rfl) rfl ?_
                      go_wp2_with fail
                      show _ ∧ _
                      refine ⟨hS, ?_⟩
                      try simp only [Act.put, List.setIfInBounds_toArray]
                      refine anyS_end (by kernel_rfl) ?_
                      go_wp2
                      refine wp_region_S (fun W => Below W0.heap.size W0 W) (by kernel_rfl) ?_
                      show wpAnyS _ _ _ _ _ (13 + 1) _ _ _
                      replace hS := hS.drew
                      generalize u2.drew = u0 at *
                      refine anyS_pure 0 (.int .i64 (m : Int)) rfl (by kernel_rfl) (by kernel_rfl) (by kernel_rfl) (fun _ _ _ h => h) (by rfl) (fun W hW => by go_simp) hS ?_
                      refine anyS_pure 2 (.slice a l c) rfl (by kernel_rfl) (by kernel_rfl) (by kernel_rfl) (fun _ _ _ h => h) (by rfl) (fun W hW => by go_simp) hS ?_
                      refine anyS_pure 4 (.pointer (some ⟨g, 3, none⟩)) rfl (by kernel_rfl) (by kernel_rfl) (by kernel_rfl) (fun _ _ _ h => h) (by rfl) (fun W hW => by go_simp) hS ?_
                      refine anyS_pure 5 (t3V (oth1 t)) rfl (by kernel_rfl) (by kernel_rfl) (by kernel_rfl) (fun _ _ _ h => h) (by rfl) (fun W hW => by obtain ⟨y0, y1, y2⟩ := PU1.out W hW; go_simp) hS ?_
                      try simp only [Act.put, List.setIfInBounds_toArray]
                      refine anyS_two 1 6 (by kernel_rfl) rfl rfl ?_ ?_
                      · go_wp2_with fail
                        show _ ∧ _
                        have hrow := own_mtC u0 W0.heap.size hS.size
                        replace hS := hS.alloc hS.size (.cells #[] 36)
                        obtain ⟨ga, hga⟩ : ∃ ga, u0.heap.size = ga := ⟨_, rfl⟩
                        rw [hga] at hrow
                        rw [hga]
                        generalize u0.alloc (.cells #[] 36) = x1 at *
                        refine ⟨hS, ?_⟩
                        try simp only [Act.put, List.setIfInBounds_toArray]
                        refine anyS_two 3 6 (by kernel_rfl) rfl rfl ?_ ?_
                        · refine wpList_copyT rfl _ _ rfl W0.heap.size _ rfl 0 [] hrow rfl a l c L rfl (hI.out _ (nextB BW0.out hS)) hlL.out hnil.out (by omega) hS.size ?_
                          intro v1 x3 ho1 hg1
                          show _ ∧ _
                          have hrl := hrow.lt
                          replace hS := hS.grown hg1 hS.size (fun q hq => (hrl q hq).1)
                          clear hrow hg1 hrl
                          refine ⟨hS, ?_⟩
                          try simp only [Act.put, List.setIfInBounds_toArray]
                          refine anyS_one 6 (by kernel_rfl) rfl ?_
                          go_wp2_with fail
                          show _ ∧ _
                          have hTg := Blk.new x3 36 #[.int .i64 (oth1 t).1, .int .i64 (oth1 t).2.1, .int .i64 (oth1 t).2.2]
                          replace ho1 := ho1.alloc (.cells #[.int .i64 (oth1 t).1, .int .i64 (oth1 t).2.1, .int .i64 (oth1 t).2.2] 36)
                          replace hS := hS.alloc hS.size (.cells #[.int .i64 (oth1 t).1, .int .i64 (oth1 t).2.1, .int .i64 (oth1 t).2.2] 36)
                          obtain ⟨gt, hgt0⟩ : ∃ gt, x3.heap.size = gt := ⟨_, rfl⟩
                          rw [hgt0] at hTg
                          rw [hgt0]
                          generalize x3.alloc (.cells #[.int .i64 (oth1 t).1, .int .i64 (oth1 t).2.1, .int .i64 (oth1 t).2.2] 36) = x6 at *
                          refine ⟨hS, ?_⟩
                          try simp only [Act.put, List.setIfInBounds_toArray]
                          refine anyS_one 7 (by kernel_rfl) rfl ?_
                          refine wpList_copyT rfl _ _ rfl W0.heap.size _ rfl (0 + l) ([] ++ L) ho1 (by rw [List.nil_append, hlL.out, Nat.zero_add]) (some ⟨gt, 0, none⟩) 1 1 [(oth1 t)] rfl (trips_one hTg) rfl (fun h => by cases h) (by omega) hS.size ?_
                          intro v2 wz ho2 hg2
                          show _ ∧ _
                          have hrl2 := ho1.lt
                          replace hS := hS.grown hg2 hS.size (fun q hq => (hrl2 q hq).1)
                          rw [List.nil_append, Nat.zero_add] at ho2
                          obtain ⟨aw, cw, rfl, _, hTw, _⟩ := own_tripsA ho2 (by rw [List.length_append, List.length_singleton, hlL.out])
                          clear ho1 ho2 hg2 hrl2 hTg
                          refine ⟨hS, ?_⟩
                          try simp only [Act.put, List.setIfInBounds_toArray]
                          refine anyS_one 8 (by kernel_rfl) rfl ?_
                          go_wp2_with (go_at_call 11; (with_reducible refine (B1'.out _ _ _ (nextB BW0.out hS) hTw).mono ?_); rintro eq u2 ⟨rfl, hbw⟩)
                          show _ ∧ _
                          replace hS := nextB hS hbw
                          clear hbw hTw
                          refine ⟨hS, ?_⟩
                          try simp only [Act.put, List.setIfInBounds_toArray]
                          refine anyS_pure 9 (.tuple #[strV r1, .int .i64 e1]) rfl (by kernel_rfl) (by kernel_rfl) (by kernel_rfl) (fun _ _ _ h => h) (by rfl) (fun W hW => by go_simp) hS ?_
                          try simp only [Act.put]
                          refine anyS_pure 10 (strV r1) rfl (by kernel_rfl) (by kernel_rfl) (by kernel_rfl) (fun _ _ _ h => h) (by rfl) (fun W hW => by go_simp) hS ?_
                          try simp only [Act.put]
                          refine anyS_pure 11 (.int .i64 e1) rfl (by kernel_rfl) (by kernel_rfl) (by kernel_rfl) (fun _ _ _ h => h) (by rfl) (fun W hW => by go_simp) hS ?_
                          try simp only [Act.put]
                          refine anyS_pure 12 (strV r1) rfl (by kernel_rfl) (by kernel_rfl) (by kernel_rfl) (fun _ _ _ h => h) (by rfl) (fun W hW => by go_simp) hS ?_
                          try simp only [Act.put, List.setIfInBounds_toArray]
                          refine anyS_one 13 (by kernel_rfl) rfl ?_
                          go_wp2_with fail
                          show _ ∧ _
                          refine ⟨hS, ?_⟩
                          try simp only [Act.put, List.setIfInBounds_toArray]
                          refine anyS_end (by kernel_rfl) ?_
                          obtain ⟨y0, y1, y2⟩ := PT.out _ hS
                          have INy := INx.out _ (nextB D10.out hS)
                          cases hp0 : (e0 != 0)
                          all_goals
                            cases hp1 : (e1 != 0)
                          all_goals
                            rw [hp0, hp1] at INy
                            go_wp2_with fail
                            refine INy.mono ?_
                            rintro eq w9 ⟨rfl, hb9⟩
                            dsimp only
                            have B9 := nextB (nextB BW0.out hS) hb9
                            clear hb9
                            go_wp2_with (go_at_call 6; refine (C.out _ B9).mono ?_; rintro eq w10 ⟨rfl, hb10⟩)
                            go_ret
                            exact Ret.mk rfl (nextB B9 hb10)
                        · go_wp2_with fail
                          show _ ∧ _
                          have hTg := Blk.new x1 36 #[.int .i64 (oth1 t).1, .int .i64 (oth1 t).2.1, .int .i64 (oth1 t).2.2]
                          have hrl := hrow.lt
                          replace hrow := hrow.alloc (.cells #[.int .i64 (oth1 t).1, .int .i64 (oth1 t).2.1, .int .i64 (oth1 t).2.2] 36)
                          replace hS := hS.alloc hS.size (.cells #[.int .i64 (oth1 t).1, .int .i64 (oth1 t).2.1, .int .i64 (oth1 t).2.2] 36)
                          obtain ⟨gt, hgt0⟩ : ∃ gt, x1.heap.size = gt := ⟨_, rfl⟩
                          rw [hgt0] at hTg
                          have hne : gt ≠ ga := by have := (hrl ga rfl).2; omega
                          rw [hgt0]
                          generalize x1.alloc (.cells #[.int .i64 (oth1 t).1, .int .i64 (oth1 t).2.1, .int .i64 (oth1 t).2.2] 36) = x6 at *
                          refine ⟨hS, ?_⟩
                          try simp only [Act.put, List.setIfInBounds_toArray]
                          refine anyS_one 3 (by kernel_rfl) rfl ?_
                          refine wpList_copyT rfl _ _ rfl W0.heap.size _ rfl 0 [] hrow rfl a l c L rfl (hI.out _ (nextB BW0.out hS)) hlL.out hnil.out (by omega) hS.size ?_
                          intro v1 x3 ho1 hg1
                          show _ ∧ _
                          have hrl := hrow.lt
                          replace hTg := blk_grown hTg hg1 (fun e => hne (Option.some.inj e))
                          replace hS := hS.grown hg1 hS.size (fun q hq => (hrl q hq).1)
                          clear hrow hg1 hrl
                          refine ⟨hS, ?_⟩
                          try simp only [Act.put, List.setIfInBounds_toArray]
                          refine anyS_one 7 (by kernel_rfl) rfl ?_
                          refine wpList_copyT rfl _ _ rfl W0.heap.size _ rfl (0 + l) ([] ++ L) ho1 (by rw [List.nil_append, hlL.out, Nat.zero_add]) (some ⟨gt, 0, none⟩) 1 1 [(oth1 t)] rfl (trips_one hTg) rfl (fun h => by cases h) (by omega) hS.size ?_
                          intro v2 wz ho2 hg2
                          show _ ∧ _
                          have hrl2 := ho1.lt
                          replace hS := hS.grown hg2 hS.size (fun q hq => (hrl2 q hq).1)
                          rw [List.nil_append, Nat.zero_add] at ho2
                          obtain ⟨aw, cw, rfl, _, hTw, _⟩ := own_tripsA ho2 (by rw [List.length_append, List.length_singleton, hlL.out])
                          clear ho1 ho2 hg2 hrl2 hTg
                          refine ⟨hS, ?_⟩
                          try simp only [Act.put, List.setIfInBounds_toArray]
                          refine anyS_one 8 (by kernel_rfl) rfl ?_
                          go_wp2_with (go_at_call 11; (with_reducible refine (B1'.out _ _ _ (nextB BW0.out hS) hTw).mono ?_); rintro eq u2 ⟨rfl, hbw⟩)
                          show _ ∧ _
                          replace hS := nextB hS hbw
                          clear hbw hTw
                          refine ⟨hS, ?_⟩
                          try simp only [Act.put, List.setIfInBounds_toArray]
                          refine anyS_pure 9 (.tuple #[strV r1, .int .i64 e1]) rfl (by kernel_rfl) (by kernel_rfl) (by kernel_rfl) (fun _ _ _ h => h) (by rfl) (fun W hW => by go_simp) hS ?_
                          try simp only [Act.put]
                          refine anyS_pure 10 (strV r1) rfl (by kernel_rfl) (by kernel_rfl) (by kernel_rfl) (fun _ _ _ h => h) (by rfl) (fun W hW => by go_simp) hS ?_
                          try simp only [Act.put]
                          refine anyS_pure 11 (.int .i64 e1) rfl (by kernel_rfl) (by kernel_rfl) (by kernel_rfl) (fun _ _ _ h => h) (by rfl) (fun W hW => by go_simp) hS ?_
                          try simp only [Act.put]
                          refine anyS_pure 12 (strV r1) rfl (by kernel_rfl) (by kernel_rfl) (by kernel_rfl) (fun _ _ _ h => h) (by rfl) (fun W hW => by go_simp) hS ?_
                          try simp only [Act.put, List.setIfInBounds_toArray]
                          refine anyS_one 13 (by kernel_rfl) rfl ?_
                          go_wp2_with fail
                          show _ ∧ _
                          refine ⟨hS, ?_⟩
                          try simp only [Act.put, List.setIfInBounds_toArray]
                          refine anyS_end (by kernel_rfl) ?_
                          obtain ⟨y0, y1, y2⟩ := PT.out _ hS
                          have INy := INx.out _ (nextB D10.out hS)
                          cases hp0 : (e0 != 0)
                          all_goals
                            cases hp1 : (e1 != 0)
                          all_goals
                            rw [hp0, hp1] at INy
                            go_wp2_with fail
                            refine INy.mono ?_
                            rintro eq w9 ⟨rfl, hb9⟩
                            dsimp only
                            have B9 := nextB (nextB BW0.out hS) hb9
                            clear hb9
                            go_wp2_with (go_at_call 6; refine (C.out _ B9).mono ?_; rintro eq w10 ⟨rfl, hb10⟩)
                            go_ret
                            exact Ret.mk rfl (nextB B9 hb10)
                      · go_wp2_with fail
                        show _ ∧ _
                        have hTg := Blk.new u0 36 #[.int .i64 (oth1 t).1, .int .i64 (oth1 t).2.1, .int .i64 (oth1 t).2.2]
                        replace hS := hS.alloc hS.size (.cells #[.int .i64 (oth1 t).1, .int .i64 (oth1 t).2.1, .int .i64 (oth1 t).2.2] 36)
                        obtain ⟨gt, hgt0⟩ : ∃ gt, u0.heap.size = gt := ⟨_, rfl⟩
                        rw [hgt0] at hTg
                        rw [hgt0]
                        generalize u0.alloc (.cells #[.int .i64 (oth1 t).1, .int .i64 (oth1 t).2.1, .int .i64 (oth1 t).2.2] 36) = x6 at *
                        refine ⟨hS, ?_⟩
                        try simp only [Act.put, List.setIfInBounds_toArray]
                        refine anyS_one 1 (by kernel_rfl) rfl ?_
                        go_wp2_with fail
                        show _ ∧ _
                        have hrow := own_mtC x6 W0.heap.size hS.size
                        have hgt := hTg.lt
                        replace hTg := hTg.alloc (.cells #[] 36)
                        replace hS := hS.alloc hS.size (.cells #[] 36)
                        obtain ⟨ga, hga⟩ : ∃ ga, x6.heap.size = ga := ⟨_, rfl⟩
                        rw [hga] at hrow
                        have hne : gt ≠ ga := by omega
                        rw [hga]
                        generalize x6.alloc (.cells #[] 36) = x1 at *
                        refine ⟨hS, ?_⟩
                        try simp only [Act.put, List.setIfInBounds_toArray]
                        refine anyS_one 3 (by kernel_rfl) rfl ?_
                        refine wpList_copyT rfl _ _ rfl W0.heap.size _ rfl 0 [] hrow rfl a l c L rfl (hI.out _ (nextB BW0.out hS)) hlL.out hnil.out (by omega) hS.size ?_
                        intro v1 x3 ho1 hg1
                        show _ ∧ _
                        have hrl := hrow.lt
                        replace hTg := blk_grown hTg hg1 (fun e => hne (Option.some.inj e))
                        replace hS := hS.grown hg1 hS.size (fun q hq => (hrl q hq).1)
                        clear hrow hg1 hrl
                        refine ⟨hS, ?_⟩
                        try simp only [Act.put, List.setIfInBounds_toArray]
                        refine anyS_one 7 (by kernel_rfl) rfl ?_
                        refine wpList_copyT rfl _ _ rfl W0.heap.size _ rfl (0 + l) ([] ++ L) ho1 (by rw [List.nil_append, hlL.out, Nat.zero_add]) (some ⟨gt, 0, none⟩) 1 1 [(oth1 t)] rfl (trips_one hTg) rfl (fun h => by cases h) (by omega) hS.size ?_
                        intro v2 wz ho2 hg2
                        show _ ∧ _
                        have hrl2 := ho1.lt
                        replace hS := hS.grown hg2 hS.size (fun q hq => (hrl2 q hq).1)
                        rw [List.nil_append, Nat.zero_add] at ho2
                        obtain ⟨aw, cw, rfl, _, hTw, _⟩ := own_tripsA ho2 (by rw [List.length_append, List.length_singleton, hlL.out])
                        clear ho1 ho2 hg2 hrl2 hTg
                        refine ⟨hS, ?_⟩
                        try simp only [Act.put, List.setIfInBounds_toArray]
                        refine anyS_one 8 (by kernel_rfl) rfl ?_
                        go_wp2_with (go_at_call 11; (with_reducible refine (B1'.out _ _ _ (nextB BW0.out hS) hTw).mono ?_); rintro eq u2 ⟨rfl, hbw⟩)
                        show _ ∧ _
                        replace hS := nextB hS hbw
                        clear hbw hTw
                        refine ⟨hS, ?_⟩
                        try simp only [Act.put, List.setIfInBounds_toArray]
                        refine anyS_pure 9 (.tuple #[strV r1, .int .i64 e1]) rfl (by kernel_rfl) (by kernel_rfl) (by kernel_rfl) (fun _ _ _ h => h) (by rfl) (fun W hW => by go_simp) hS ?_
                        try simp only [Act.put]
                        refine anyS_pure 10 (strV r1) rfl (by kernel_rfl) (by kernel_rfl) (by kernel_rfl) (fun _ _ _ h => h) (by rfl) (fun W hW => by go_simp) hS ?_
                        try simp only [Act.put]
                        refine anyS_pure 11 (.int .i64 e1) rfl (by kernel_rfl) (by kernel_rfl) (by kernel_rfl) (fun _ _ _ h => h) (by rfl) (fun W hW => by go_simp) hS ?_
                        try simp only [Act.put]
                        refine anyS_pure 12 (strV r1) rfl (by kernel_rfl) (by kernel_rfl) (by kernel_rfl) (fun _ _ _ h => h) (by rfl) (fun W hW => by go_simp) hS ?_
                        try simp only [Act.put, List.setIfInBounds_toArray]
                        refine anyS_one 13 (by kernel_rfl) rfl ?_
                        go_wp2_with fail
                        show _ ∧ _
                        refine ⟨hS, ?_⟩
                        try simp only [Act.put, List.setIfInBounds_toArray]
                        refine anyS_end (by kernel_rfl) ?_
                        obtain ⟨y0, y1, y2⟩ := PT.out _ hS
                        have INy := INx.out _ (nextB D10.out hS)
                        cases hp0 : (e0 != 0)
                        all_goals
                          cases hp1 : (e1 != 0)
                        all_goals
                          rw [hp0, hp1] at INy
                          go_wp2_with fail
                          refine INy.mono ?_
                          rintro eq w9 ⟨rfl, hb9⟩
                          dsimp only
                          have B9 := nextB (nextB BW0.out hS) hb9
                          clear hb9
                          go_wp2_with (go_at_call 6; refine (C.out _ B9).mono ?_; rintro eq w10 ⟨rfl, hb10⟩)
                          go_ret
                          exact Ret.mk rfl (nextB B9 hb10)
                    · go_wp2_with fail
                      show _ ∧ _
                      have hTg := Blk.new x1 36 #[.int .i64 (oth0 t).1, .int .i64 (oth0 t).2.1, .int .i64 (oth0 t).2.2]
                      have hrl := hrow.lt
                      replace hrow := hrow.alloc (.cells #[.int .i64 (oth0 t).1, .int .i64 (oth0 t).2.1, .int .i64 (oth0 t).2.2] 36)
                      replace hS := hS.alloc hS.size (.cells #[.int .i64 (oth0 t).1, .int .i64 (oth0 t).2.1, .int .i64 (oth0 t).2.2] 36)
                      obtain ⟨gt, hgt0⟩ : ∃ gt, x1.heap.size = gt := ⟨_, rfl⟩
                      rw [hgt0] at hTg
                      have hne : gt ≠ ga := by have := (hrl ga rfl).2; omega
                      rw [hgt0]
                      generalize x1.alloc (.cells #[.int .i64 (oth0 t).1, .int .i64 (oth0 t).2.1, .int .i64 (oth0 t).2.2] 36) = x6 at *
                      refine ⟨hS, ?_⟩
                      try simp only [Act.put, List.setIfInBounds_toArray]
                      refine anyS_one 3 (by kernel_rfl) rfl ?_
                      refine wpList_copyT rfl _ _ rfl W0.heap.size _ rfl 0 [] hrow rfl a l c L rfl (hI.out _ (nextB BW0.out hS)) hlL.out hnil.out (by omega) hS.size ?_
                      intro v1 x3 ho1 hg1
                      show _ ∧ _
                      have hrl := hrow.lt
                      replace hTg := blk_grown hTg hg1 (fun e => hne (Option.some.inj e))
                      replace hS := hS.grown hg1 hS.size (fun q hq => (hrl q hq).1)
                      clear hrow hg1 hrl
                      refine ⟨hS, ?_⟩
                      try simp only [Act.put, List.setIfInBounds_toArray]
                      refine anyS_one 7 (by kernel_rfl) rfl ?_
                      refine wpList_copyT rfl _ _ rfl W0.heap.size _ rfl (0 + l) ([] ++ L) ho1 (by rw [List.nil_append, hlL.out, Nat.zero_add]) (some ⟨gt, 0, none⟩) 1 1 [(oth0 t)] rfl (trips_one hTg) rfl (fun h => by cases h) (by omega) hS.size ?_
                      intro v2 wz ho2 hg2
                      show _ ∧ _
                      have hrl2 := ho1.lt
                      replace hS := hS.grown hg2 hS.size (fun q hq => (hrl2 q hq).1)
                      rw [List.nil_append, Nat.zero_add] at ho2
                      obtain ⟨aw, cw, rfl, _, hTw, _⟩ := own_tripsA ho2 (by rw [List.length_append, List.length_singleton, hlL.out])
                      clear ho1 ho2 hg2 hrl2 hTg
                      refine ⟨hS, ?_⟩
                      try simp only [Act.put, List.setIfInBounds_toArray]
                      refine anyS_one 8 (by kernel_rfl) rfl ?_
                      go_wp2_with (go_at_call 11; (with_reducible refine (B0'.out _ _ _ (nextB BW0.out hS) hTw).mono ?_); rintro eq u2 ⟨rfl, hbw⟩)
                      show _ ∧ _
                      replace hS := nextB hS hbw
                      clear hbw hTw
                      refine ⟨hS, ?_⟩
                      try simp only [Act.put, List.setIfInBounds_toArray]
                      refine anyS_pure 9 (.tuple #[strV r0, .int .i64 e0]) rfl (by kernel_rfl) (by kernel_rfl) (by kernel_rfl) (fun _ _ _ h => h) (by rfl) (fun W hW => by go_simp) hS ?_
                      try simp only [Act.put]
                      refine anyS_pure 10 (strV r0) rfl (by kernel_rfl) (by kernel_rfl) (by kernel_rfl) (fun _ _ _ h => h) (by rfl) (fun W hW => by go_simp) hS ?_
                      try simp only [Act.put]
                      refine anyS_pure 11 (.int .i64 e0) rfl (by kernel_rfl) (by kernel_rfl) (by kernel_rfl) (fun _ _ _ h => h) (by rfl) (fun W hW => by go_simp) hS ?_
                      try simp only [Act.put]
                      refine anyS_pure 12 (strV r0) rfl (by kernel_rfl) (by kernel_rfl) (by kernel_rfl) (fun _ _ _ h => h) (by rfl) (fun W hW => by go_simp) hS ?_
                      try simp only [Act.put, List.setIfInBounds_toArray]
                      refine anyS_one 13 (by kernel_rfl) rfl ?_
                      go_wp2_with fail
                      show _ ∧ _
                      refine ⟨hS, ?_⟩
                      try simp only [Act.put, List.setIfInBounds_toArray]
                      refine anyS_end (by kernel_rfl) ?_
                      go_wp2
                      refine wp_region_S (fun W => Below W0.heap.size W0 W) (by kernel_rfl) ?_
                      show wpAnyS _ _ _ _ _ (13 + 1) _ _ _
                      replace hS := hS.drew
                      generalize u2.drew = u0 at *
                      refine anyS_pure 0 (.int .i64 (m : Int)) rfl (by kernel_rfl) (by kernel_rfl) (by kernel_rfl) (fun _ _ _ h => h) (by rfl) (fun W hW => by go_simp) hS ?_
                      refine anyS_pure 2 (.slice a l c) rfl (by kernel_rfl) (by kernel_rfl) (by kernel_rfl) (fun _ _ _ h => h) (by rfl) (fun W hW => by go_simp) hS ?_
                      refine anyS_pure 4 (.pointer (some ⟨g, 3, none⟩)) rfl (by kernel_rfl) (by kernel_rfl) (by kernel_rfl) (fun _ _ _ h => h) (by rfl) (fun W hW => by go_simp) hS ?_
                      refine anyS_pure 5 (t3V (oth1 t)) rfl (by kernel_rfl) (by kernel_rfl) (by kernel_rfl) (fun _ _ _ h => h) (by rfl) (fun W hW => by obtain ⟨y0, y1, y2⟩ := PU1.out W hW; go_simp) hS ?_
                      try simp only [Act.put, List.setIfInBounds_toArray]
                      refine anyS_two 1 6 (by kernel_rfl) rfl rfl ?_ ?_
                      · go_wp2_with fail
                        show _ ∧ _
                        have hrow := own_mtC u0 W0.heap.size hS.size
                        replace hS := hS.alloc hS.size (.cells #[] 36)
                        obtain ⟨ga, hga⟩ : ∃ ga, u0.heap.size = ga := ⟨_, rfl⟩
                        rw [hga] at hrow
                        rw [hga]
                        generalize u0.alloc (.cells #[] 36) = x1 at *
                        refine ⟨hS, ?_⟩
                        try simp only [Act.put, List.setIfInBounds_toArray]
                        refine anyS_two 3 6 (by kernel_rfl) rfl rfl ?_ ?_
                        · refine wpList_copyT rfl _ _ rfl W0.heap.size _ rfl 0 [] hrow rfl a l c L rfl (hI.out _ (nextB BW0.out hS)) hlL.out hnil.out (by omega) hS.size ?_
                          intro v1 x3 ho1 hg1
                          show _ ∧ _
                          have hrl := hrow.lt
                          replace hS := hS.grown hg1 hS.size (fun q hq => (hrl q hq).1)
                          clear hrow hg1 hrl
                          refine ⟨hS, ?_⟩
                          try simp only [Act.put, List.setIfInBounds_toArray]
                          refine anyS_one 6 (by kernel_rfl) rfl ?_
                          go_wp2_with fail
                          show _ ∧ _
                          have hTg := Blk.new x3 36 #[.int .i64 (oth1 t).1, .int .i64 (oth1 t).2.1, .int .i64 (oth1 t).2.2]
                          replace ho1 := ho1.alloc (.cells #[.int .i64 (oth1 t).1, .int .i64 (oth1 t).2.1, .int .i64 (oth1 t).2.2] 36)
                          replace hS := hS.alloc hS.size (.cells #[.int .i64 (oth1 t).1, .int .i64 (oth1 t).2.1, .int .i64 (oth1 t).2.2] 36)
                          obtain ⟨gt, hgt0⟩ : ∃ gt, x3.heap.size = gt := ⟨_, rfl⟩
                          rw [hgt0] at hTg
                          rw [hgt0]
                          generalize x3.alloc (.cells #[.int .i64 (oth1 t).1, .int .i64 (oth1 t).2.1, .int .i64 (oth1 t).2.2] 36) = x6 at *
                          refine ⟨hS, ?_⟩
                          try simp only [Act.put, List.setIfInBounds_toArray]
                          refine anyS_one 7 (by kernel_rfl) rfl ?_
                          refine wpList_copyT rfl _ _ rfl W0.heap.size _ rfl (0 + l) ([] ++ L) ho1 (by rw [List.nil_append, hlL.out, Nat.zero_add]) (some ⟨gt, 0, none⟩) 1 1 [(oth1 t)] rfl (trips_one hTg) rfl (fun h => by cases h) (by omega) hS.size ?_
                          intro v2 wz ho2 hg2
                          show _ ∧ _
                          have hrl2 := ho1.lt
                          replace hS := hS.grown hg2 hS.size (fun q hq => (hrl2 q hq).1)
                          rw [List.nil_append, Nat.zero_add] at ho2
                          obtain ⟨aw, cw, rfl, _, hTw, _⟩ := own_tripsA ho2 (by rw [List.length_append, List.length_singleton, hlL.out])
                          clear ho1 ho2 hg2 hrl2 hTg
                          refine ⟨hS, ?_⟩
                          try simp only [Act.put, List.setIfInBounds_toArray]
                          refine anyS_one 8 (by kernel_rfl) rfl ?_
                          go_wp2_with (go_at_call 11; (with_reducible refine (B1'.out _ _ _ (nextB BW0.out hS) hTw).mono ?_); rintro eq u2 ⟨rfl, hbw⟩)
                          show _ ∧ _
                          replace hS := nextB hS hbw
                          clear hbw hTw
                          refine ⟨hS, ?_⟩
                          try simp only [Act.put, List.setIfInBounds_toArray]
                          refine anyS_pure 9 (.tuple #[strV r1, .int .i64 e1]) rfl (by kernel_rfl) (by kernel_rfl) (by kernel_rfl) (fun _ _ _ h => h) (by rfl) (fun W hW => by go_simp) hS ?_
                          try simp only [Act.put]
                          refine anyS_pure 10 (strV r1) rfl (by kernel_rfl) (by kernel_rfl) (by kernel_rfl) (fun _ _ _ h => h) (by rfl) (fun W hW => by go_simp) hS ?_
                          try simp only [Act.put]
                          refine anyS_pure 11 (.int .i64 e1) rfl (by kernel_rfl) (by kernel_rfl) (by kernel_rfl) (fun _ _ _ h => h) (by rfl) (fun W hW => by go_simp) hS ?_
                          try simp only [Act.put]
                          refine anyS_pure 12 (strV r1) rfl (by kernel_rfl) (by kernel_rfl) (by kernel_rfl) (fun _ _ _ h => h) (by rfl) (fun W hW => by go_simp) hS ?_
                          try simp only [Act.put, List.setIfInBounds_toArray]
                          refine anyS_one 13 (by kernel_rfl) rfl ?_
                          go_wp2_with fail
                          show _ ∧ _
                          refine ⟨hS, ?_⟩
                          try simp only [Act.put, List.setIfInBounds_toArray]
                          refine anyS_end (by kernel_rfl) ?_
                          obtain ⟨y0, y1, y2⟩ := PT.out _ hS
                          have INy := INx.out _ (nextB D10.out hS)
                          cases hp0 : (e0 != 0)
                          all_goals
                            cases hp1 : (e1 != 0)
                          all_goals
                            rw [hp0, hp1] at INy
                            go_wp2_with fail
                            refine INy.mono ?_
                            rintro eq w9 ⟨rfl, hb9⟩
                            dsimp only
                            have B9 := nextB (nextB BW0.out hS) hb9
                            clear hb9
                            go_wp2_with (go_at_call 6; refine (C.out _ B9).mono ?_; rintro eq w10 ⟨rfl, hb10⟩)
                            go_ret
                            exact Ret.mk rfl (nextB B9 hb10)
                        · go_wp2_with fail
                          show _ ∧ _
                          have hTg := Blk.new x1 36 #[.int .i64 (oth1 t).1, .int .i64 (oth1 t).2.1, .int .i64 (oth1 t).2.2]
                          have hrl := hrow.lt
                          replace hrow := hrow.alloc (.cells #[.int .i64 (oth1 t).1, .int .i64 (oth1 t).2.1, .int .i64 (oth1 t).2.2] 36)
                          replace hS := hS.alloc hS.size (.cells #[.int .i64 (oth1 t).1, .int .i64 (oth1 t).2.1, .int .i64 (oth1 t).2.2] 36)
                          obtain ⟨gt, hgt0⟩ : ∃ gt, x1.heap.size = gt := ⟨_, rfl⟩
                          rw [hgt0] at hTg
                          have hne : gt ≠ ga := by have := (hrl ga rfl).2; omega
                          rw [hgt0]
                          generalize x1.alloc (.cells #[.int .i64 (oth1 t).1, .int .i64 (oth1 t).2.1, .int .i64 (oth1 t).2.2] 36) = x6 at *
                          refine ⟨hS, ?_⟩
                          try simp only [Act.put, List.setIfInBounds_toArray]
                          refine anyS_one 3 (by kernel_rfl) rfl ?_
                          refine wpList_copyT rfl _ _ rfl W0.heap.size _ rfl 0 [] hrow rfl a l c L rfl (hI.out _ (nextB BW0.out hS)) hlL.out hnil.out (by omega) hS.size ?_
                          intro v1 x3 ho1 hg1
                          show _ ∧ _
                          have hrl := hrow.lt
                          replace hTg := blk_grown hTg hg1 (fun e => hne (Option.some.inj e))
                          replace hS := hS.grown hg1 hS.size (fun q hq => (hrl q hq).1)
                          clear hrow hg1 hrl
                          refine ⟨hS, ?_⟩
                          try simp only [Act.put, List.setIfInBounds_toArray]
                          refine anyS_one 7 (by kernel_rfl) rfl ?_
                          refine wpList_copyT rfl _ _ rfl W0.heap.size _ rfl (0 + l) ([] ++ L) ho1 (by rw [List.nil_append, hlL.out, Nat.zero_add]) (some ⟨gt, 0, none⟩) 1 1 [(oth1 t)] rfl (trips_one hTg) rfl (fun h => by cases h) (by omega) hS.size ?_
                          intro v2 wz ho2 hg2
                          show _ ∧ _
                          have hrl2 := ho1.lt
                          replace hS := hS.grown hg2 hS.size (fun q hq => (hrl2 q hq).1)
                          rw [List.nil_append, Nat.zero_add] at ho2
                          obtain ⟨aw, cw, rfl, _, hTw, _⟩ := own_tripsA ho2 (by rw [List.length_append, List.length_singleton, hlL.out])
                          clear ho1 ho2 hg2 hrl2 hTg
                          refine ⟨hS, ?_⟩
                          try simp only [Act.put, List.setIfInBounds_toArray]
                          refine anyS_one 8 (by kernel_rfl) rfl ?_
                          go_wp2_with (go_at_call 11; (with_reducible refine (B1'.out _ _ _ (nextB BW0.out hS) hTw).mono ?_); rintro eq u2 ⟨rfl, hbw⟩)
                          show _ ∧ _
                          replace hS := nextB hS hbw
                          clear hbw hTw
                          refine ⟨hS, ?_⟩
                          try simp only [Act.put, List.setIfInBounds_toArray]
                          refine anyS_pure 9 (.tuple #[strV r1, .int .i64 e1]) rfl (by kernel_rfl) (by kernel_rfl) (by kernel_rfl) (fun _ _ _ h => h) (by rfl) (fun W hW => by go_simp) hS ?_
                          try simp only [Act.put]
                          refine anyS_pure 10 (strV r1) rfl (by kernel_rfl) (by kernel_rfl) (by kernel_rfl) (fun _ _ _ h => h) (by rfl) (fun W hW => by go_simp) hS ?_
                          try simp only [Act.put]
                          refine anyS_pure 11 (.int .i64 e1) rfl (by kernel_rfl) (by kernel_rfl) (by kernel_rfl) (fun _ _ _ h => h) (by rfl) (fun W hW => by go_simp) hS ?_
                          try simp only [Act.put]
                          refine anyS_pure 12 (strV r1) rfl (by kernel_rfl) (by kernel_rfl) (by kernel_rfl) (fun _ _ _ h => h) (by rfl) (fun W hW => by go_simp) hS ?_
                          try simp only [Act.put, List.setIfInBounds_toArray]
                          refine anyS_one 13 (by kernel_rfl) rfl ?_
                          go_wp2_with fail
                          show _ ∧ _
                          refine ⟨hS, ?_⟩
                          try simp only [Act.put, List.setIfInBounds_toArray]
                          refine anyS_end (by kernel_rfl) ?_
                          obtain ⟨y0, y1, y2⟩ := PT.out _ hS
                          have INy := INx.out _ (nextB D10.out hS)
                          cases hp0 : (e0 != 0)
                          all_goals
                            cases hp1 : (e1 != 0)
                          all_goals
                            rw [hp0, hp1] at INy
                            go_wp2_with fail
                            refine INy.mono ?_
                            rintro eq w9 ⟨rfl, hb9⟩
                            dsimp only
                            have B9 := nextB (nextB BW0.out hS) hb9
                            clear hb9
                            go_wp2_with (go_at_call 6; refine (C.out _ B9).mono ?_; rintro eq w10 ⟨rfl, hb10⟩)
                            go_ret
                            exact Ret.mk rfl (nextB B9 hb10)
                      · go_wp2_with fail
                        show _ ∧ _
                        have hTg := Blk.new u0 36 #[.int .i64 (oth1 t).1, .int .i64 (oth1 t).2.1, .int .i64 (oth1 t).2.2]
                        replace hS := hS.alloc hS.size (.cells #[.int .i64 (oth1 t).1, .int .i64 (oth1 t).2.1, .int .i64 (oth1 t).2.2] 36)
                        obtain ⟨gt, hgt0⟩ : ∃ gt, u0.heap.size = gt := ⟨_, rfl⟩
                        rw [hgt0] at hTg
                        rw [hgt0]
                        generalize u0.alloc (.cells #[.int .i64 (oth1 t).1, .int .i64 (oth1 t).2.1, .int .i64 (oth1 t).2.2] 36) = x6 at *
                        refine ⟨hS, ?_⟩
                        try simp only [Act.put, List.setIfInBounds_toArray]
                        refine anyS_one 1 (by kernel_rfl) rfl ?_
                        go_wp2_with fail
                        show _ ∧ _
                        have hrow := own_mtC x6 W0.heap.size hS.size
                        have hgt := hTg.lt
                        replace hTg := hTg.alloc (.cells #[] 36)
                        replace hS := hS.alloc hS.size (.cells #[] 36)
                        obtain ⟨ga, hga⟩ : ∃ ga, x6.heap.size = ga := ⟨_, rfl⟩
                        rw [hga] at hrow
                        have hne : gt ≠ ga := by omega
                        rw [hga]
                        generalize x6.alloc (.cells #[] 36) = x1 at *
                        refine ⟨hS, ?_⟩
                        try simp only [Act.put, List.setIfInBounds_toArray]
                        refine anyS_one 3 (by kernel_rfl) rfl ?_
                        refine wpList_copyT rfl _ _ rfl W0.heap.size _ rfl 0 [] hrow rfl a l c L rfl (hI.out _ (nextB BW0.out hS)) hlL.out hnil.out (by omega) hS.size ?_
                        intro v1 x3 ho1 hg1
                        show _ ∧ _
                        have hrl := hrow.lt
                        replace hTg := blk_grown hTg hg1 (fun e => hne (Option.some.inj e))
                        replace hS := hS.grown hg1 hS.size (fun q hq => (hrl q hq).1)
                        clear hrow hg1 hrl
                        refine ⟨hS, ?_⟩
                        try simp only [Act.put, List.setIfInBounds_toArray]
                        refine anyS_one 7 (by kernel_rfl) rfl ?_
                        refine wpList_copyT rfl _ _ rfl W0.heap.size _ rfl (0 + l) ([] ++ L) ho1 (by rw [List.nil_append, hlL.out, Nat.zero_add]) (some ⟨gt, 0, none⟩) 1 1 [(oth1 t)] rfl (trips_one hTg) rfl (fun h => by cases h) (by omega) hS.size ?_
                        intro v2 wz ho2 hg2
                        show _ ∧ _
                        have hrl2 := ho1.lt
                        replace hS := hS.grown hg2 hS.size (fun q hq => (hrl2 q hq).1)
                        rw [List.nil_append, Nat.zero_add] at ho2
                        obtain ⟨aw, cw, rfl, _, hTw, _⟩ := own_tripsA ho2 (by rw [List.length_append, List.length_singleton, hlL.out])
                        clear ho1 ho2 hg2 hrl2 hTg
                        refine ⟨hS, ?_⟩
                        try simp only [Act.put, List.setIfInBounds_toArray]
                        refine anyS_one 8 (by kernel_rfl) rfl ?_
                        go_wp2_with (go_at_call 11; (with_reducible refine (B1'.out _ _ _ (nextB BW0.out hS) hTw).mono ?_); rintro eq u2 ⟨rfl, hbw⟩)
                        show _ ∧ _
                        replace hS := nextB hS hbw
                        clear hbw hTw
                        refine ⟨hS, ?_⟩
                        try simp only [Act.put, List.setIfInBounds_toArray]
                        refine anyS_pure 9 (.tuple #[strV r1, .int .i64 e1]) rfl (by kernel_rfl) (by kernel_rfl) (by kernel_rfl) (fun _ _ _ h => h) (by rfl) (fun W hW => by go_simp) hS ?_
                        try simp only [Act.put]
                        refine anyS_pure 10 (strV r1) rfl (by kernel_rfl) (by kernel_rfl) (by kernel_rfl) (fun _ _ _ h => h) (by rfl) (fun W hW => by go_simp) hS ?_
                        try simp only [Act.put]
                        refine anyS_pure 11 (.int .i64 e1) rfl (by kernel_rfl) (by kernel_rfl) (by kernel_rfl) (fun _ _ _ h => h) (by rfl) (fun W hW => by go_simp) hS ?_
                        try simp only [Act.put]
                        refine anyS_pure 12 (strV r1) rfl (by kernel_rfl) (by kernel_rfl) (by kernel_rfl) (fun _ _ _ h => h) (by rfl) (fun W hW => by go_simp) hS ?_
                        try simp only [Act.put, List.setIfInBounds_toArray]
                        refine anyS_one 13 (by kernel_rfl) rfl ?_
                        go_wp2_with fail
                        show _ ∧ _
                        refine ⟨hS, ?_⟩
                        try simp only [Act.put, List.setIfInBounds_toArray]
                        refine anyS_end (by kernel_rfl) ?_
                        obtain ⟨y0, y1, y2⟩ := PT.out _ hS
                        have INy := INx.out _ (nextB D10.out hS)
                        cases hp0 : (e0 != 0)
                        all_goals
                          cases hp1 : (e1 != 0)
                        all_goals
                          rw [hp0, hp1] at INy
                          go_wp2_with fail
                          refine INy.mono ?_
                          rintro eq w9 ⟨rfl, hb9⟩
                          dsimp only
                          have B9 := nextB (nextB BW0.out hS) hb9
                          clear hb9
                          go_wp2_with (go_at_call 6; refine (C.out _ B9).mono ?_; rintro eq w10 ⟨rfl, hb10⟩)
                          go_ret
                          exact Ret.mk rfl (nextB B9 hb10)
                  · go_wp2_with fail
                    show _ ∧ _
                    have hTg := Blk.new u0 36 #[.int .i64 (oth0 t).1, .int .i64 (oth0 t).2.1, .int .i64 (oth0 t).2.2]
                    replace hS := hS.alloc hS.size (.cells #[.int .i64 (oth0 t).1, .int .i64 (oth0 t).2.1, .int .i64 (oth0 t).2.2] 36)
                    obtain ⟨gt, hgt0⟩ : ∃ gt, u0.heap.size = gt := ⟨_, rfl⟩
                    rw [hgt0] at hTg
                    rw [hgt0]
                    generalize u0.alloc (.cells #[.int .i64 (oth0 t).1, .int .i64 (oth0 t).2.1, .int .i64 (oth0 t).2.2] 36) = x6 at *
                    refine ⟨hS, ?_⟩
                    try simp only [Act.put, List.setIfInBounds_toArray]
                    refine anyS_one 1 (by kernel_rfl) rfl ?_
                    go_wp2_with fail
                    show _ ∧ _
                    have hrow := own_mtC x6 W0.heap.size hS.size
                    have hgt := hTg.lt
                    replace hTg := hTg.alloc (.cells #[] 36)
                    replace hS := hS.alloc hS.size (.cells #[] 36)
                    obtain ⟨ga, hga⟩ : ∃ ga, x6.heap.size = ga := ⟨_, rfl⟩
                    rw [hga] at hrow
                    have hne : gt ≠ ga := by omega
                    rw [hga]
                    generalize x6.alloc (.cells #[] 36) = x1 at *
                    refine ⟨hS, ?_⟩
                    try simp only [Act.put, List.setIfInBounds_toArray]
                    refine anyS_one 3 (by kernel_rfl) rfl ?_
                    refine wpList_copyT rfl _ _ rfl W0.heap.size _ rfl 0 [] hrow rfl a l c L rfl (hI.out _ (nextB BW0.out hS)) hlL.out hnil.out (by omega) hS.size ?_
                    intro v1 x3 ho1 hg1
                    show _ ∧ _
                    have hrl := hrow.lt
                    replace hTg := blk_grown hTg hg1 (fun e => hne (Option.some.inj e))
                    replace hS := hS.grown hg1 hS.size (fun q hq => (hrl q hq).1)
                    clear hrow hg1 hrl
                    refine ⟨hS, ?_⟩
                    try simp only [Act.put, List.setIfInBounds_toArray]
                    refine anyS_one 7 (by kernel_rfl) rfl ?_
                    refine wpList_copyT rfl _ _ rfl W0.heap.size _ rfl (0 + l) ([] ++ L) ho1 (by rw [List.nil_append, hlL.out, Nat.zero_add]) (some ⟨gt, 0, none⟩) 1 1 [(oth0 t)] rfl (trips_one hTg) rfl (fun h => by cases h) (by omega) hS.size ?_
                    intro v2 wz ho2 hg2
                    show _ ∧ _
                    have hrl2 := ho1.lt
                    replace hS := hS.grown hg2 hS.size (fun q hq => (hrl2 q hq).1)
                    rw [List.nil_append, Nat.zero_add] at ho2
                    obtain ⟨aw, cw, rfl, _, hTw, _⟩ := own_tripsA ho2 (by rw [List.length_append, List.length_singleton, hlL.out])
                    clear ho1 ho2 hg2 hrl2 hTg
                    refine ⟨hS, ?_⟩
                    try simp only [Act.put, List.setIfInBounds_toArray]
                    refine anyS_one 8 (by kernel_rfl) rfl ?_
                    go_wp2_with (go_at_call 11; (with_reducible refine (B0'.out _ _ _ (nextB BW0.out hS) hTw).mono ?_); rintro eq u2 ⟨rfl, hbw⟩)
                    show _ ∧ _
                    replace hS := nextB hS hbw
                    clear hbw hTw
                    refine ⟨hS, ?_⟩
                    try simp only [Act.put, List.setIfInBounds_toArray]
                    refine anyS_pure 9 (.tuple #[strV r0, .int .i64 e0]) rfl (by kernel_rfl) (by kernel_rfl) (by kernel_rfl) (fun _ _ _ h => h) (by rfl) (fun W hW => by go_simp) hS ?_
                    try simp only [Act.put]
                    refine anyS_pure 10 (strV r0) rfl (by kernel_rfl) (by kernel_rfl) (by kernel_rfl) (fun _ _ _ h => h) (by rfl) (fun W hW => by go_simp) hS ?_
                    try simp only [Act.put]
                    refine anyS_pure 11 (.int .i64 e0) rfl (by kernel_rfl) (by kernel_rfl) (by kernel_rfl) (fun _ _ _ h => h) (by rfl) (fun W hW => by go_simp) hS ?_
                    try simp only [Act.put]
                    refine anyS_pure 12 (strV r0) rfl (by kernel_rfl) (by kernel_rfl) (by kernel_rfl) (fun _ _ _ h => h) (by rfl) (fun W hW => by go_simp) hS ?_
                    try simp only [Act.put, List.setIfInBounds_toArray]
                    refine anyS_one 13 (by kernel_rfl) rfl ?_
                    go_wp2_with fail
                    show _ ∧ _
                    refine ⟨hS, ?_⟩
                    try simp only [Act.put, List.setIfInBounds_toArray]
                    refine anyS_end (by kernel_rfl) ?_
                    go_wp2
                    refine wp_region_S (fun W => Below W0.heap.size W0 W) (by kernel_rfl) ?_
                    show wpAnyS _ _ _ _ _ (13 + 1) _ _ _
                    replace hS := hS.drew
                    generalize u2.drew = u0 at *
                    refine anyS_pure 0 (.int .i64 (m : Int)) rfl (by kernel_rfl) (by kernel_rfl) (by kernel_rfl) (fun _ _ _ h => h) (by rfl) (fun W hW => by go_simp) hS ?_
                    refine anyS_pure 2 (.slice a l c) rfl (by kernel_rfl) (by kernel_rfl) (by kernel_rfl) (fun _ _ _ h => h) (by rfl) (fun W hW => by go_simp) hS ?_
                    refine anyS_pure 4 (.pointer (some ⟨g, 3, none⟩)) rfl (by kernel_rfl) (by kernel_rfl) (by kernel_rfl) (fun _ _ _ h => h) (by rfl) (fun W hW => by go_simp) hS ?_
                    refine anyS_pure 5 (t3V (oth1 t)) rfl (by kernel_rfl) (by kernel_rfl) (by kernel_rfl) (fun _ _ _ h => h) (by rfl) (fun W hW => by obtain ⟨y0, y1, y2⟩ := PU1.out W hW; go_simp) hS ?_
                    try simp only [Act.put, List.setIfInBounds_toArray]
                    refine anyS_two 1 6 (by kernel_rfl) rfl rfl ?_ ?_
                    · go_wp2_with fail
                      show _ ∧ _
                      have hrow := own_mtC u0 W0.heap.size hS.size
                      replace hS := hS.alloc hS.size (.cells #[] 36)
                      obtain ⟨ga, hga⟩ : ∃ ga, u0.heap.size = ga := ⟨_, rfl⟩
                      rw [hga] at hrow
                      rw [hga]
                      generalize u0.alloc (.cells #[] 36) = x1 at *
                      refine ⟨hS, ?_⟩
                      try simp only [Act.put, List.setIfInBounds_toArray]
                      refine anyS_two 3 6 (by kernel_rfl) rfl rfl ?_ ?_
                      · refine wpList_copyT rfl _ _ rfl W0.heap.size _ rfl 0 [] hrow rfl a l c L rfl (hI.out _ (nextB BW0.out hS)) hlL.out hnil.out (by omega) hS.size ?_
                        intro v1 x3 ho1 hg1
                        show _ ∧ _
                        have hrl := hrow.lt
                        replace hS := hS.grown hg1 hS.size (fun q hq => (hrl q hq).1)
                        clear hrow hg1 hrl
                        refine ⟨hS, ?_⟩
                        try simp only [Act.put, List.setIfInBounds_toArray]
                        refine anyS_one 6 (by kernel_rfl) rfl ?_
                        go_wp2_with fail
                        show _ ∧ _
                        have hTg := Blk.new x3 36 #[.int .i64 (oth1 t).1, .int .i64 (oth1 t).2.1, .int .i64 (oth1 t).2.2]
                        replace ho1 := ho1.alloc (.cells #[.int .i64 (oth1 t).1, .int .i64 (oth1 t).2.1, .int .i64 (oth1 t).2.2] 36)
                        replace hS := hS.alloc hS.size (.cells #[.int .i64 (oth1 t).1, .int .i64 (oth1 t).2.1, .int .i64 (oth1 t).2.2] 36)
                        obtain ⟨gt, hgt0⟩ : ∃ gt, x3.heap.size = gt := ⟨_, rfl⟩
                        rw [hgt0] at hTg
                        rw [hgt0]
                        generalize x3.alloc (.cells #[.int .i64 (oth1 t).1, .int .i64 (oth1 t).2.1, .int .i64 (oth1 t).2.2] 36) = x6 at *
                        refine ⟨hS, ?_⟩
                        try simp only [Act.put, List.setIfInBounds_toArray]
                        refine anyS_one 7 (by kernel_rfl) rfl ?_
                        refine wpList_copyT rfl _ _ rfl W0.heap.size _ rfl (0 + l) ([] ++ L) ho1 (by rw [List.nil_append, hlL.out, Nat.zero_add]) (some ⟨gt, 0, none⟩) 1 1 [(oth1 t)] rfl (trips_one hTg) rfl (fun h => by cases h) (by omega) hS.size ?_
                        intro v2 wz ho2 hg2
                        show _ ∧ _
                        have hrl2 := ho1.lt
                        replace hS := hS.grown hg2 hS.size (fun q hq => (hrl2 q hq).1)
                        rw [List.nil_append, Nat.zero_add] at ho2
                        obtain ⟨aw, cw, rfl, _, hTw, _⟩ := own_tripsA ho2 (by rw [List.length_append, List.length_singleton, hlL.out])
                        clear ho1 ho2 hg2 hrl2 hTg
                        refine ⟨hS, ?_⟩
                        try simp only [Act.put, List.setIfInBounds_toArray]
                        refine anyS_one 8 (by kernel_rfl) rfl ?_
                        go_wp2_with (go_at_call 11; (with_reducible refine (B1'.out _ _ _ (nextB BW0.out hS) hTw).mono ?_); rintro eq u2 ⟨rfl, hbw⟩)
                        show _ ∧ _
                        replace hS := nextB hS hbw
                        clear hbw hTw
                        refine ⟨hS, ?_⟩
                        try simp only [Act.put, List.setIfInBounds_toArray]
                        refine anyS_pure 9 (.tuple #[strV r1, .int .i64 e1]) rfl (by kernel_rfl) (by kernel_rfl) (by kernel_rfl) (fun _ _ _ h => h) (by rfl) (fun W hW => by go_simp) hS ?_
                        try simp only [Act.put]
                        refine anyS_pure 10 (strV r1) rfl (by kernel_rfl) (by kernel_rfl) (by kernel_rfl) (fun _ _ _ h => h) (by rfl) (fun W hW => by go_simp) hS ?_
                        try simp only [Act.put]
                        refine anyS_pure 11 (.int .i64 e1) rfl (by kernel_rfl) (by kernel_rfl) (by kernel_rfl) (fun _ _ _ h => h) (by rfl) (fun W hW => by go_simp) hS ?_
                        try simp only [Act.put]
                        refine anyS_pure 12 (strV r1) rfl (by kernel_rfl) (by kernel_rfl) (by kernel_rfl) (fun _ _ _ h => h) (by rfl) (fun W hW => by go_simp) hS ?_
                        try simp only [Act.put, List.setIfInBounds_toArray]
                        refine anyS_one 13 (by kernel_rfl) rfl ?_
                        go_wp2_with fail
                        show _ ∧ _
                        refine ⟨hS, ?_⟩
                        try simp only [Act.put, List.setIfInBounds_toArray]
                        refine anyS_end (by kernel_rfl) ?_
                        obtain ⟨y0, y1, y2⟩ := PT.out _ hS
                        have INy := INx.out _ (nextB D10.out hS)
                        cases hp0 : (e0 != 0)
                        all_goals
                          cases hp1 : (e1 != 0)
                        all_goals
                          rw [hp0, hp1] at INy
                          go_wp2_with fail
                          refine INy.mono ?_
                          rintro eq w9 ⟨rfl, hb9⟩
                          dsimp only
                          have B9 := nextB (nextB BW0.out hS) hb9
                          clear hb9
                          go_wp2_with (go_at_call 6; refine (C.out _ B9).mono ?_; rintro eq w10 ⟨rfl, hb10⟩)
                          go_ret
                          exact Ret.mk rfl (nextB B9 hb10)
                      · go_wp2_with fail
                        show _ ∧ _
                        have hTg := Blk.new x1 36 #[.int .i64 (oth1 t).1, .int .i64 (oth1 t).2.1, .int .i64 (oth1 t).2.2]
                        have hrl := hrow.lt
                        replace hrow := hrow.alloc (.cells #[.int .i64 (oth1 t).1, .int .i64 (oth1 t).2.1, .int .i64 (oth1 t).2.2] 36)
                        replace hS := hS.alloc hS.size (.cells #[.int .i64 (oth1 t).1, .int .i64 (oth1 t).2.1, .int .i64 (oth1 t).2.2] 36)
                        obtain ⟨gt, hgt0⟩ : ∃ gt, x1.heap.size = gt := ⟨_, rfl⟩
                        rw [hgt0] at hTg
                        have hne : gt ≠ ga := by have := (hrl ga rfl).2; omega
                        rw [hgt0]
                        generalize x1.alloc (.cells #[.int .i64 (oth1 t).1, .int .i64 (oth1 t).2.1, .int .i64 (oth1 t).2.2] 36) = x6 at *
                        refine ⟨hS, ?_⟩
                        try simp only [Act.put, List.setIfInBounds_toArray]
                        refine anyS_one 3 (by kernel_rfl) rfl ?_
                        refine wpList_copyT rfl _ _ rfl W0.heap.size _ rfl 0 [] hrow rfl a l c L rfl (hI.out _ (nextB BW0.out hS)) hlL.out hnil.out (by omega) hS.size ?_
                        intro v1 x3 ho1 hg1
                        show _ ∧ _
                        have hrl := hrow.lt
                        replace hTg := blk_grown hTg hg1 (fun e => hne (Option.some.inj e))
                        replace hS := hS.grown hg1 hS.size (fun q hq => (hrl q hq).1)
                        clear hrow hg1 hrl
                        refine ⟨hS, ?_⟩
                        try simp only [Act.put, List.setIfInBounds_toArray]
                        refine anyS_one 7 (by kernel_rfl) rfl ?_
                        refine wpList_copyT rfl _ _ rfl W0.heap.size _ rfl (0 + l) ([] ++ L) ho1 (by rw [List.nil_append, hlL.out, Nat.zero_add]) (some ⟨gt, 0, none⟩) 1 1 [(oth1 t)] rfl (trips_one hTg) rfl (fun h => by cases h) (by omega) hS.size ?_
                        intro v2 wz ho2 hg2
                        show _ ∧ _
                        have hrl2 := ho1.lt
                        replace hS := hS.grown hg2 hS.size (fun q hq => (hrl2 q hq).1)
                        rw [List.nil_append, Nat.zero_add] at ho2
                        obtain ⟨aw, cw, rfl, _, hTw, _⟩ := own_tripsA ho2 (by rw [List.length_append, List.length_singleton, hlL.out])
                        clear ho1 ho2 hg2 hrl2 hTg
                        refine ⟨hS, ?_⟩
                        try simp only [Act.put, List.setIfInBounds_toArray]
                        refine anyS_one 8 (by kernel_rfl) rfl ?_
                        go_wp2_with (go_at_call 11; (with_reducible refine (B1'.out _ _ _ (nextB BW0.out hS) hTw).mono ?_); rintro eq u2 ⟨rfl, hbw⟩)
                        show _ ∧ _
                        replace hS := nextB hS hbw
                        clear hbw hTw
                        refine ⟨hS, ?_⟩
                        try simp only [Act.put, List.setIfInBounds_toArray]
                        refine anyS_pure 9 (.tuple #[strV r1, .int .i64 e1]) rfl (by kernel_rfl) (by kernel_rfl) (by kernel_rfl) (fun _ _ _ h => h) (by rfl) (fun W hW => by go_simp) hS ?_
                        try simp only [Act.put]
                        refine anyS_pure 10 (strV r1) rfl (by kernel_rfl) (by kernel_rfl) (by kernel_rfl) (fun _ _ _ h => h) (by rfl) (fun W hW => by go_simp) hS ?_
                        try simp only [Act.put]
                        refine anyS_pure 11 (.int .i64 e1) rfl (by kernel_rfl) (by kernel_rfl) (by kernel_rfl) (fun _ _ _ h => h) (by rfl) (fun W hW => by go_simp) hS ?_
                        try simp only [Act.put]
                        refine anyS_pure 12 (strV r1) rfl (by kernel_rfl) (by kernel_rfl) (by kernel_rfl) (fun _ _ _ h => h) (by rfl) (fun W hW => by go_simp) hS ?_
                        try simp only [Act.put, List.setIfInBounds_toArray]
                        refine anyS_one 13 (by kernel_rfl) rfl ?_
                        go_wp2_with fail
                        show _ ∧ _
                        refine ⟨hS, ?_⟩
                        try simp only [Act.put, List.setIfInBounds_toArray]
                        refine anyS_end (by kernel_rfl) ?_
                        obtain ⟨y0, y1, y2⟩ := PT.out _ hS
                        have INy := INx.out _ (nextB D10.out hS)
                        cases hp0 : (e0 != 0)
                        all_goals
                          cases hp1 : (e1 != 0)
                        all_goals
                          rw [hp0, hp1] at INy
                          go_wp2_with fail
                          refine INy.mono ?_
                          rintro eq w9 ⟨rfl, hb9⟩
                          dsimp only
                          have B9 := nextB (nextB BW0.out hS) hb9
                          clear hb9
                          go_wp2_with (go_at_call 6; refine (C.out _ B9).mono ?_; rintro eq w10 ⟨rfl, hb10⟩)
                          go_ret
                          exact Ret.mk rfl (nextB B9 hb10)
                    · go_wp2_with fail
                      show _ ∧ _
                      have hTg := Blk.new u0 36 #[.int .i64 (oth1 t).1, .int .i64 (oth1 t).2.1, .int .i64 (oth1 t).2.2]
                      replace hS := hS.alloc hS.size (.cells #[.int .i64 (oth1 t).1, .int .i64 (oth1 t).2.1, .int .i64 (oth1 t).2.2] 36)
                      obtain ⟨gt, hgt0⟩ : ∃ gt, u0.heap.size = gt := ⟨_, rfl⟩
                      rw [hgt0] at hTg
                      rw [hgt0]
                      generalize u0.alloc (.cells #[.int .i64 (oth1 t).1, .int .i64 (oth1 t).2.1, .int .i64 (oth1 t).2.2] 36) = x6 at *
                      refine ⟨hS, ?_⟩
                      try simp only [Act.put, List.setIfInBounds_toArray]
                      refine anyS_one 1 (by kernel_rfl) rfl ?_
                      go_wp2_with fail
                      show _ ∧ _
                      have hrow := own_mtC x6 W0.heap.size hS.size
                      have hgt := hTg.lt
                      replace hTg := hTg.alloc (.cells #[] 36)
                      replace hS := hS.alloc hS.size (.cells #[] 36)
                      obtain ⟨ga, hga⟩ : ∃ ga, x6.heap.size = ga := ⟨_, rfl⟩
                      rw [hga] at hrow
                      have hne : gt ≠ ga := by omega
                      rw [hga]
                      generalize x6.alloc (.cells #[] 36) = x1 at *
                      refine ⟨hS, ?_⟩
                      try simp only [Act.put, List.setIfInBounds_toArray]
                      refine anyS_one 3 (by kernel_rfl) rfl ?_
                      refine wpList_copyT rfl _ _ rfl W0.heap.size _ rfl 0 [] hrow rfl a l c L rfl (hI.out _ (nextB BW0.out hS)) hlL.out hnil.out (by omega) hS.size ?_
                      intro v1 x3 ho1 hg1
                      show _ ∧ _
                      have hrl := hrow.lt
                      replace hTg := blk_grown hTg hg1 (fun e => hne (Option.some.inj e))
                      replace hS := hS.grown hg1 hS.size (fun q hq => (hrl q hq).1)
                      clear hrow hg1 hrl
                      refine ⟨hS, ?_⟩
                      try simp only [Act.put, List.setIfInBounds_toArray]
                      refine anyS_one 7 (by kernel_rfl) rfl ?_
                      refine wpList_copyT rfl _ _ rfl W0.heap.size _ rfl (0 + l) ([] ++ L) ho1 (by rw [List.nil_append, hlL.out, Nat.zero_add]) (some ⟨gt, 0, none⟩) 1 1 [(oth1 t)] rfl (trips_one hTg) rfl (fun h => by cases h) (by omega) hS.size ?_
                      intro v2 wz ho2 hg2
                      show _ ∧ _
                      have hrl2 := ho1.lt
                      replace hS := hS.grown hg2 hS.size (fun q hq => (hrl2 q hq).1)
                      rw [List.nil_append, Nat.zero_add] at ho2
                      obtain ⟨aw, cw, rfl, _, hTw, _⟩ := own_tripsA ho2 (by rw [List.length_append, List.length_singleton, hlL.out])
                      clear ho1 ho2 hg2 hrl2 hTg
                      refine ⟨hS, ?_⟩
                      try simp only [Act.put, List.setIfInBounds_toArray]
                      refine anyS_one 8 (by kernel_rfl) rfl ?_
                      go_wp2_with (go_at_call 11; (with_reducible refine (B1'.out _ _ _ (nextB BW0.out hS) hTw).mono ?_); rintro eq u2 ⟨rfl, hbw⟩)
                      show _ ∧ _
                      replace hS := nextB hS hbw
                      clear hbw hTw
                      refine ⟨hS, ?_⟩
                      try simp only [Act.put, List.setIfInBounds_toArray]
                      refine anyS_pure 9 (.tuple #[strV r1, .int .i64 e1]) rfl (by kernel_rfl) (by kernel_rfl) (by kernel_rfl) (fun _ _ _ h => h) (by rfl) (fun W hW => by go_simp) hS ?_
                      try simp only [Act.put]
                      refine anyS_pure 10 (strV r1) rfl (by kernel_rfl) (by kernel_rfl) (by kernel_rfl) (fun _ _ _ h => h) (by rfl) (fun W hW => by go_simp) hS ?_
                      try simp only [Act.put]
                      refine anyS_pure 11 (.int .i64 e1) rfl (by kernel_rfl) (by kernel_rfl) (by kernel_rfl) (fun _ _ _ h => h) (by rfl) (fun W hW => by go_simp) hS ?_
                      try simp only [Act.put]
                      refine anyS_pure 12 (strV r1) rfl (by kernel_rfl) (by kernel_rfl) (by kernel_rfl) (fun _ _ _ h => h) (by rfl) (fun W hW => by go_simp) hS ?_
                      try simp only [Act.put, List.setIfInBounds_toArray]
                      refine anyS_one 13 (by kernel_rfl) rfl ?_
                      go_wp2_with fail
                      show _ ∧ _
                      refine ⟨hS, ?_⟩
                      try simp only [Act.put, List.setIfInBounds_toArray]
                      refine anyS_end (by kernel_rfl) ?_
                      obtain ⟨y0, y1, y2⟩ := PT.out _ hS
                      have INy := INx.out _ (nextB D10.out hS)
                      cases hp0 : (e0 != 0)
                      all_goals
                        cases hp1 : (e1 != 0)
                      all_goals
                        rw [hp0, hp1] at INy
                        go_wp2_with fail
                        refine INy.mono ?_
                        rintro eq w9 ⟨rfl, hb9⟩
                        dsimp only
                        have B9 := nextB (nextB BW0.out hS) hb9
                        clear hb9
                        go_wp2_with (go_at_call 6; refine (C.out _ B9).mono ?_; rintro eq w10 ⟨rfl, hb10⟩)
                        go_ret
                        exact Ret.mk rfl (nextB B9 hb10)
                · have h60i : ¬ (q : Int) ≤ 60 := by omega
                  have D6 := D0
                  clear D0
                  go_wp2_with fail
                  refine (AL.out _).mono ?_
                  rintro e w7 ⟨v7, rfl, ho7, hb7⟩
                  dsimp only
                  rw [hqa.out] at ho7
                  obtain ⟨a7, c7, rfl, _, hC7, _⟩ := own_tripsA ho7 hqa.out
                  have D7 := nextB D6 hb7
                  clear ho7 hb7 D6
                  have hixL : ix < TA.length := by rw [hqa.out]; exact hixl
                  obtain ⟨b7, off7, rfl, hc7⟩ := trips_at hC7 (by omega)
                  obtain ⟨z0, z1, z2⟩ := hc7 ix hixL
                  have hvx := Lib.hid (hv.out _ (tth_mem hixL))
                  have INx := Lib.hid (fun W (hW : Below w3.heap.size w3 W) => IN.out a2 c2 (tth TA ix) W (hC3.out _ hW))
                  clear hc7 hC7 hv IN hown AL SM
                  generalize tth TA ix = t at *
                  rw [hvx.out] at INx
                  clear hvx
                  have bt1 := b1 w7 (.cells #[.int .i64 t.1, .int .i64 t.2.1, .int .i64 t.2.2] 36)
                  have hBt := Blk.new w7 36 #[.int .i64 t.1, .int .i64 t.2.1, .int .i64 t.2.2]
                  go_wp2_with fail
                  generalize w7.alloc (.cells #[.int .i64 t.1, .int .i64 t.2.1, .int .i64 t.2.2] 36) = x7 at *
                  have D8 := nextB D7 bt1
                  clear z0 z1 z2 bt1 D7
                  obtain ⟨gt0, hgt0'⟩ : ∃ gt0, w7.heap.size = gt0 := ⟨_, rfl⟩
                  rw [hgt0'] at hBt ⊢
                  clear hgt0'
                  refine (OT.out t _).mono ?_
                  rintro e w8 ⟨rfl, hb8⟩
                  dsimp only
                  have D9 := nextB D8 hb8
                  have hBt8 := hBt.ext hb8
                  have bt2 := b1 w8 (.cells (c6 (oth0 t) (oth1 t)) 38)
                  have hO := Blk.new w8 38 (c6 (oth0 t) (oth1 t))
                  have hBt9 := hBt8.alloc (.cells (c6 (oth0 t) (oth1 t)) 38)
                  have D10 := Lib.hid (nextB D9 bt2)
                  clear hBt hBt8 bt2 D9 D8 hb8 OT
                  have B0' := BU.out (oth0 t)
                  have B1' := BU.out (oth1 t)
                  generalize (bldE (m : Int) (L ++ [oth0 t])).1 = r0 at *
                  generalize (bldE (m : Int) (L ++ [oth0 t])).2 = e0 at *
                  generalize (bldE (m : Int) (L ++ [oth1 t])).1 = r1 at *
                  generalize (bldE (m : Int) (L ++ [oth1 t])).2 = e1 at *
                  replace B0' := Lib.hid B0'
                  replace B1' := Lib.hid B1'
                  clear BU
                  have BW0 := Lib.hid (nextB B3 D10.out)
                  go_wp2_with fail
                  change Code.wp _ _ _ _ (w8.alloc (.cells (c6 (oth0 t) (oth1 t)) 38))
                  generalize w8.alloc (.cells (c6 (oth0 t) (oth1 t)) 38) = W0 at *
                  generalize w8.heap.size = g at *
                  have PU0 := Lib.hid (fun W (hW : Below W0.heap.size W0 W) => show W.cell? ⟨g, 0, none⟩ = some (.int .i64 (oth0 t).1) ∧ W.cell? ⟨g, 1, none⟩ = some (.int .i64 (oth0 t).2.1) ∧ W.cell? ⟨g, 2, none⟩ = some (.int .i64 (oth0 t).2.2) from ⟨(hO.ext hW).c 0 rfl, (hO.ext hW).c 1 rfl, (hO.ext hW).c 2 rfl⟩)
                  have PU1 := Lib.hid (fun W (hW : Below W0.heap.size W0 W) => show W.cell? ⟨g, 3, none⟩ = some (.int .i64 (oth1 t).1) ∧ W.cell? ⟨g, 4, none⟩ = some (.int .i64 (oth1 t).2.1) ∧ W.cell? ⟨g, 5, none⟩ = some (.int .i64 (oth1 t).2.2) from ⟨(hO.ext hW).c 3 rfl, (hO.ext hW).c 4 rfl, (hO.ext hW).c 5 rfl⟩)
                  have PT := Lib.hid (fun W (hW : Below W0.heap.size W0 W) => show W.cell? ⟨gt0, 0, none⟩ = some (.int .i64 t.1) ∧ W.cell? ⟨gt0, 1, none⟩ = some (.int .i64 t.2.1) ∧ W.cell? ⟨gt0, 2, none⟩ = some (.int .i64 t.2.2) from ⟨(hBt9.ext hW).c 0 rfl, (hBt9.ext hW).c 1 rfl, (hBt9.ext hW).c 2 rfl⟩)
                  clear hO hBt9
                  have hS : Below W0.heap.size W0 W0 := Below.refl _ _
                  refine wp_region_S (fun W => Below W0.heap.size W0 W) (by kernel_rfl) ?_
                  show wpAnyS _ _ _ _ _ (13 + 1) _ _ _
                  replace hS := hS.drew
                  generalize W0.drew = u0 at *
                  refine anyS_pure 0 (.int .i64 (m : Int)) rfl (by kernel_rfl) (by kernel_rfl) (by kernel_rfl) (fun _ _ _ h => h) (by rfl) (fun W hW => by go_simp) hS ?_
                  refine anyS_pure 2 (.slice a l c) rfl (by kernel_rfl) (by kernel_rfl) (by kernel_rfl) (fun _ _ _ h => h) (by rfl) (fun W hW => by go_simp) hS ?_
                  refine anyS_pure 4 (.pointer (some ⟨g, 0, none⟩)) rfl (by kernel_rfl) (by kernel_rfl) (by kernel_rfl) (fun _ _ _ h => h) (by rfl) (fun W hW => by go_simp) hS ?_
                  refine anyS_pure 5 (t3V (oth0 t)) rfl (by kernel_rfl) (by kernel_rfl) (by kernel_rfl) (fun _ _ _ h => h) (by rfl) (fun W hW => by obtain ⟨y0, y1, y2⟩ := PU0.out W hW; go_simp) hS ?_
                  try simp only [Act.put, List.setIfInBounds_toArray]
                  refine anyS_two 1 6 (by kernel_rfl) rfl rfl ?_ ?_
                  · go_wp2_with fail
                    show _ ∧ _
                    have hrow := own_mtC u0 W0.heap.size hS.size
                    replace hS := hS.alloc hS.size (.cells #[] 36)
                    obtain ⟨ga, hga⟩ : ∃ ga, u0.heap.size = ga := ⟨_, rfl⟩
                    rw [hga] at hrow
                    rw [hga]
                    generalize u0.alloc (.cells #[] 36) = x1 at *
                    refine ⟨hS, ?_⟩
                    try simp only [Act.put, List.setIfInBounds_toArray]
                    refine anyS_two 3 6 (by kernel_rfl) rfl rfl ?_ ?_
                    · refine wpList_copyT rfl _ _ rfl W0.heap.size _ rfl 0 [] hrow rfl a l c L rfl (hI.out _ (nextB BW0.out hS)) hlL.out hnil.out (by omega) hS.size ?_
                      intro v1 x3 ho1 hg1
                      show _ ∧ _
                      have hrl := hrow.lt
                      replace hS := hS.grown hg1 hS.size (fun q hq => (hrl q hq).1)
                      clear hrow hg1 hrl
                      refine ⟨hS, ?_⟩
                      try simp only [Act.put, List.setIfInBounds_toArray]
                      refine anyS_one 6 (by kernel_rfl) rfl ?_
                      go_wp2_with fail
                      show _ ∧ _
                      have hTg := Blk.new x3 36 #[.int .i64 (oth0 t).1, .int .i64 (oth0 t).2.1, .int .i64 (oth0 t).2.2]
                      replace ho1 := ho1.alloc (.cells #[.int .i64 (oth0 t).1, .int .i64 (oth0 t).2.1, .int .i64 (oth0 t).2.2] 36)
                      replace hS := hS.alloc hS.size (.cells #[.int .i64 (oth0 t).1, .int .i64 (oth0 t).2.1, .int .i64 (oth0 t).2.2] 36)
                      obtain ⟨gt, hgt0⟩ : ∃ gt, x3.heap.size = gt := ⟨_, rfl⟩
                      rw [hgt0] at hTg
                      rw [hgt0]
                      generalize x3.alloc (.cells #[.int .i64 (oth0 t).1, .int .i64 (oth0 t).2.1, .int .i64 (oth0 t).2.2] 36) = x6 at *
                      refine ⟨hS, ?_⟩
                      try simp only [Act.put, List.setIfInBounds_toArray]
                      refine anyS_one 7 (by kernel_rfl) rfl ?_
                      refine wpList_copyT rfl _ _ rfl W0.heap.size _ rfl (0 + l) ([] ++ L) ho1 (by rw [List.nil_append, hlL.out, Nat.zero_add]) (some ⟨gt, 0, none⟩) 1 1 [(oth0 t)] rfl (trips_one hTg) rfl (fun h => by cases h) (by omega) hS.size ?_
                      intro v2 wz ho2 hg2
                      show _ ∧ _
                      have hrl2 := ho1.lt
                      replace hS := hS.grown hg2 hS.size (fun q hq => (hrl2 q hq).1)
                      rw [List.nil_append, Nat.zero_add] at ho2
                      obtain ⟨aw, cw, rfl, _, hTw, _⟩ := own_tripsA ho2 (by rw [List.length_append, List.length_singleton, hlL.out])
                      clear ho1 ho2 hg2 hrl2 hTg
                      refine ⟨hS, ?_⟩
                      try simp only [Act.put, List.setIfInBounds_toArray]
                      refine anyS_one 8 (by kernel_rfl) rfl ?_
                      go_wp2_with (go_at_call 11; (with_reducible refine (B0'.out _ _ _ (nextB BW0.out hS) hTw).mono ?_); rintro eq u2 ⟨rfl, hbw⟩)
                      show _ ∧ _
                      replace hS := nextB hS hbw
                      clear hbw hTw
                      refine ⟨hS, ?_⟩
                      try simp only [Act.put, List.setIfInBounds_toArray]
                      refine anyS_pure 9 (.tuple #[strV r0, .int .i64 e0]) rfl (by kernel_rfl) (by kernel_rfl) (by kernel_rfl) (fun _ _ _ h => h) (by rfl) (fun W hW => by go_simp) hS ?_
                      try simp only [Act.put]
                      refine anyS_pure 10 (strV r0) rfl (by kernel_rfl) (by kernel_rfl) (by kernel_rfl) (fun _ _ _ h => h) (by rfl) (fun W hW => by go_simp) hS ?_
                      try simp only [Act.put]
                      refine anyS_pure 11 (.int .i64 e0) rfl (by kernel_rfl) (by kernel_rfl) (by kernel_rfl) (fun _ _ _ h => h) (by rfl) (fun W hW => by go_simp) hS ?_
                      try simp only [Act.put]
                      refine anyS_pure 12 (strV r0) rfl (by kernel_rfl) (by kernel_rfl) (by kernel_rfl) (fun _ _ _ h => h) (by rfl) (fun W hW => by go_simp) hS ?_
                      try simp only [Act.put, List.setIfInBounds_toArray]
                      refine anyS_one 13 (by kernel_rfl) rfl ?_
                      go_wp2_with fail
                      show _ ∧ _
                      refine ⟨hS, ?_⟩
                      try simp only [Act.put, List.setIfInBounds_toArray]
                      refine anyS_end (by kernel_rfl) ?_
                      go_wp2
                      refine wp_region_S (fun W => Below W0.heap.size W0 W) (by kernel_rfl) ?_
                      show wpAnyS _ _ _ _ _ (13 + 1) _ _ _
                      replace hS := hS.drew
                      generalize u2.drew = u0 at *
                      refine anyS_pure 0 (.int .i64 (m : Int)) rfl (by kernel_rfl) (by kernel_rfl) (by kernel_rfl) (fun _ _ _ h => h) (by rfl) (fun W hW => by go_simp) hS ?_
                      refine anyS_pure 2 (.slice a l c) rfl (by kernel_rfl) (by kernel_rfl) (by kernel_rfl) (fun _ _ _ h => h) (by rfl) (fun W hW => by go_simp) hS ?_
                      refine anyS_pure 4 (.pointer (some ⟨g, 3, none⟩)) rfl (by kernel_rfl) (by kernel_rfl) (by kernel_rfl) (fun _ _ _ h => h) (by rfl) (fun W hW => by go_simp) hS ?_
                      refine anyS_pure 5 (t3V (oth1 t)) rfl (by kernel_rfl) (by kernel_rfl) (by kernel_rfl) (fun _ _ _ h => h) (by rfl) (fun W hW => by obtain ⟨y0, y1, y2⟩ := PU1.out W hW; go_simp) hS ?_
                      try simp only [Act.put, List.setIfInBounds_toArray]
                      refine anyS_two 1 6 (by kernel_rfl) rfl rfl ?_ ?_
                      · go_wp2_with fail
                        show _ ∧ _
                        have hrow := own_mtC u0 W0.heap.size hS.size
                        replace hS := hS.alloc hS.size (.cells #[] 36)
                        obtain ⟨ga, hga⟩ : ∃ ga, u0.heap.size = ga := ⟨_, rfl⟩
                        rw [hga] at hrow
                        rw [hga]
                        generalize u0.alloc (.cells #[] 36) = x1 at *
                        refine ⟨hS, ?_⟩
                        try simp only [Act.put, List.setIfInBounds_toArray]
                        refine anyS_two 3 6 (by kernel_rfl) rfl rfl ?_ ?_
                        · refine wpList_copyT rfl _ _ rfl W0.heap.size _ rfl 0 [] hrow rfl a l c L rfl (hI.out _ (nextB BW0.out hS)) hlL.out hnil.out (by omega) hS.size ?_
                          intro v1 x3 ho1 hg1
                          show _ ∧ _
                          have hrl := hrow.lt
                          replace hS := hS.grown hg1 hS.size (fun q hq => (hrl q hq).1)
                          clear hrow hg1 hrl
                          refine ⟨hS, ?_⟩
                          try simp only [Act.put, List.setIfInBounds_toArray]
                          refine anyS_one 6 (by kernel_rfl) rfl ?_
                          go_wp2_with fail
                          show _ ∧ _
                          have hTg := Blk.new x3 36 #[.int .i64 (oth1 t).1, .int .i64 (oth1 t).2.1, .int .i64 (oth1 t).2.2]
                          replace ho1 := ho1.alloc (.cells #[.int .i64 (oth1 t).1, .int .i64 (oth1 t).2.1, .int .i64 (oth1 t).2.2] 36)
                          replace hS := hS.alloc hS.size (.cells #[.int .i64 (oth1 t).1, .int .i64 (oth1 t).2.1, .int .i64 (oth1 t).2.2] 36)
                          obtain ⟨gt, hgt0⟩ : ∃ gt, x3.heap.size = gt := ⟨_, rfl⟩
                          rw [hgt0] at hTg
                          rw [hgt0]
                          generalize x3.alloc (.cells #[.int .i64 (oth1 t).1, .int .i64 (oth1 t).2.1, .int .i64 (oth1 t).2.2] 36) = x6 at *
                          refine ⟨hS, ?_⟩
                          try simp only [Act.put, List.setIfInBounds_toArray]
                          refine anyS_one 7 (by kernel_rfl) rfl ?_
                          refine wpList_copyT rfl _ _ rfl W0.heap.size _ rfl (0 + l) ([] ++ L) ho1 (by rw [List.nil_append, hlL.out, Nat.zero_add]) (some ⟨gt, 0, none⟩) 1 1 [(oth1 t)] rfl (trips_one hTg) rfl (fun h => by cases h) (by omega) hS.size ?_
                          intro v2 wz ho2 hg2
                          show _ ∧ _
                          have hrl2 := ho1.lt
                          replace hS := hS.grown hg2 hS.size (fun q hq => (hrl2 q hq).1)
                          rw [List.nil_append, Nat.zero_add] at ho2
                          obtain ⟨aw, cw, rfl, _, hTw, _⟩ := own_tripsA ho2 (by rw [List.length_append, List.length_singleton, hlL.out])
                          clear ho1 ho2 hg2 hrl2 hTg
                          refine ⟨hS, ?_⟩
                          try simp only [Act.put, List.setIfInBounds_toArray]
                          refine anyS_one 8 (by kernel_rfl) rfl ?_
                          go_wp2_with (go_at_call 11; (with_reducible refine (B1'.out _ _ _ (nextB BW0.out hS) hTw).mono ?_); rintro eq u2 ⟨rfl, hbw⟩)
                          show _ ∧ _
                          replace hS := nextB hS hbw
                          clear hbw hTw
                          refine ⟨hS, ?_⟩
                          try simp only [Act.put, List.setIfInBounds_toArray]
                          refine anyS_pure 9 (.tuple #[strV r1, .int .i64 e1]) rfl (by kernel_rfl) (by kernel_rfl) (by kernel_rfl) (fun _ _ _ h => h) (by rfl) (fun W hW => by go_simp) hS ?_
                          try simp only [Act.put]
                          refine anyS_pure 10 (strV r1) rfl (by kernel_rfl) (by kernel_rfl) (by kernel_rfl) (fun _ _ _ h => h) (by rfl) (fun W hW => by go_simp) hS ?_
                          try simp only [Act.put]
                          refine anyS_pure 11 (.int .i64 e1) rfl (by kernel_rfl) (by kernel_rfl) (by kernel_rfl) (fun _ _ _ h => h) (by rfl) (fun W hW => by go_simp) hS ?_
                          try simp only [Act.put]
                          refine anyS_pure 12 (strV r1) rfl (by kernel_rfl) (by kernel_rfl) (by kernel_rfl) (fun _ _ _ h => h) (by rfl) (fun W hW => by go_simp) hS ?_
                          try simp only [Act.put, List.setIfInBounds_toArray]
                          refine anyS_one 13 (by kernel_rfl) rfl ?_
                          go_wp2_with fail
                          show _ ∧ _
                          refine ⟨hS, ?_⟩
                          try simp only [Act.put, List.setIfInBounds_toArray]
                          refine anyS_end (by kernel_rfl) ?_
                          obtain ⟨y0, y1, y2⟩ := PT.out _ hS
                          have INy := INx.out _ (nextB D10.out hS)
                          cases hp0 : (e0 != 0)
                          all_goals
                            cases hp1 : (e1 != 0)
                          all_goals
                            rw [hp0, hp1] at INy
                            go_wp2_with fail
                            refine INy.mono ?_
                            rintro eq w9 ⟨rfl, hb9⟩
                            dsimp only
                            have B9 := nextB (nextB BW0.out hS) hb9
                            clear hb9
                            go_wp2_with (go_at_call 6; refine (C.out _ B9).mono ?_; rintro eq w10 ⟨rfl, hb10⟩)
                            go_ret
                            exact Ret.mk rfl (nextB B9 hb10)
                        · go_wp2_with fail
                          show _ ∧ _
                          have hTg := Blk.new x1 36 #[.int .i64 (oth1 t).1, .int .i64 (oth1 t).2.1, .int .i64 (oth1 t).2.2]
                          have hrl := hrow.lt
                          replace hrow := hrow.alloc (.cells #[.int .i64 (oth1 t).1, .int .i64 (oth1 t).2.1, .int .i64 (oth1 t).2.2] 36)
                          replace hS := hS.alloc hS.size (.cells #[.int .i64 (oth1 t).1, .int .i64 (oth1 t).2.1, .int .i64 (oth1 t).2.2] 36)
                          obtain ⟨gt, hgt0⟩ : ∃ gt, x1.heap.size = gt := ⟨_, rfl⟩
                          rw [hgt0] at hTg
                          have hne : gt ≠ ga := by have := (hrl ga rfl).2; omega
                          rw [hgt0]
                          generalize x1.alloc (.cells #[.int .i64 (oth1 t).1, .int .i64 (oth1 t).2.1, .int .i64 (oth1 t).2.2] 36) = x6 at *
                          refine ⟨hS, ?_⟩
                          try simp only [Act.put, List.setIfInBounds_toArray]
                          refine anyS_one 3 (by kernel_rfl) rfl ?_
                          refine wpList_copyT rfl _ _ rfl W0.heap.size _ rfl 0 [] hrow rfl a l c L rfl (hI.out _ (nextB BW0.out hS)) hlL.out hnil.out (by omega) hS.size ?_
                          intro v1 x3 ho1 hg1
                          show _ ∧ _
                          have hrl := hrow.lt
                          replace hTg := blk_grown hTg hg1 (fun e => hne (Option.some.inj e))
                          replace hS := hS.grown hg1 hS.size (fun q hq => (hrl q hq).1)
                          clear hrow hg1 hrl
                          refine ⟨hS, ?_⟩
                          try simp only [Act.put, List.setIfInBounds_toArray]
                          refine anyS_one 7 (by kernel_rfl) rfl ?_
                          refine wpList_copyT rfl _ _ rfl W0.heap.size _ rfl (0 + l) ([] ++ L) ho1 (by rw [List.nil_append, hlL.out, Nat.zero_add]) (some ⟨gt, 0, none⟩) 1 1 [(oth1 t)] rfl (trips_one hTg) rfl (fun h => by cases h) (by omega) hS.size ?_
                          intro v2 wz ho2 hg2
                          show _ ∧ _
                          have hrl2 := ho1.lt
                          replace hS := hS.grown hg2 hS.size (fun q hq => (hrl2 q hq).1)
                          rw [List.nil_append, Nat.zero_add] at ho2
                          obtain ⟨aw, cw, rfl, _, hTw, _⟩ := own_tripsA ho2 (by rw [List.length_append, List.length_singleton, hlL.out])
                          clear ho1 ho2 hg2 hrl2 hTg
                          refine ⟨hS, ?_⟩
                          try simp only [Act.put, List.setIfInBounds_toArray]
                          refine anyS_one 8 (by kernel_rfl) rfl ?_
                          go_wp2_with (go_at_call 11; (with_reducible refine (B1'.out _ _ _ (nextB BW0.out hS) hTw).mono ?_); rintro eq u2 ⟨rfl, hbw⟩)
                          show _ ∧ _
                          replace hS := nextB hS hbw
                          clear hbw hTw
                          refine ⟨hS, ?_⟩
                          try simp only [Act.put, List.setIfInBounds_toArray]
                          refine anyS_pure 9 (.tuple #[strV r1, .int .i64 e1]) rfl (by kernel_rfl) (by kernel_rfl) (by kernel_rfl) (fun _ _ _ h => h) (by rfl) (fun W hW => by go_simp) hS ?_
                          try simp only [Act.put]
                          refine anyS_pure 10 (strV r1) rfl (by kernel_rfl) (by kernel_rfl) (by kernel_rfl) (fun _ _ _ h => h) (by rfl) (fun W hW => by go_simp) hS ?_
                          try simp only [Act.put]
                          refine anyS_pure 11 (.int .i64 e1) rfl (by kernel_rfl) (by kernel_rfl) (by kernel_rfl) (fun _ _ _ h => h) (by rfl) (fun W hW => by go_simp) hS ?_
                          try simp only [Act.put]
                          refine anyS_pure 12 (strV r1) rfl (by kernel_rfl) (by kernel_rfl) (by kernel_rfl) (fun _ _ _ h => h) (by rfl) (fun W hW => by go_simp) hS ?_
                          try simp only [Act.put, List.setIfInBounds_toArray]
                          refine anyS_one 13 (by kernel_rfl) rfl ?_
                          go_wp2_with fail
                          show _ ∧ _
                          refine ⟨hS, ?_⟩
                          try simp only [Act.put, List.setIfInBounds_toArray]
                          refine anyS_end (by kernel_rfl) ?_
                          obtain ⟨y0, y1, y2⟩ := PT.out _ hS
                          have INy := INx.out _ (nextB D10.out hS)
                          cases hp0 : (e0 != 0)
                          all_goals
                            cases hp1 : (e1 != 0)
                          all_goals
                            rw [hp0, hp1] at INy
                            go_wp2_with fail
                            refine INy.mono ?_
                            rintro eq w9 ⟨rfl, hb9⟩
                            dsimp only
                            have B9 := nextB (nextB BW0.out hS) hb9
                            clear hb9
                            go_wp2_with (go_at_call 6; refine (C.out _ B9).mono ?_; rintro eq w10 ⟨rfl, hb10⟩)
                            go_ret
                            exact Ret.mk rfl (nextB B9 hb10)
                      · go_wp2_with fail
                        show _ ∧ _
                        have hTg := Blk.new u0 36 #[.int .i64 (oth1 t).1, .int .i64 (oth1 t).2.1, .int .i64 (oth1 t).2.2]
                        replace hS := hS.alloc hS.size (.cells #[.int .i64 (oth1 t).1, .int .i64 (oth1 t).2.1, .int .i64 (oth1 t).2.2] 36)
                        obtain ⟨gt, hgt0⟩ : ∃ gt, u0.heap.size = gt := ⟨_, rfl⟩
                        rw [hgt0] at hTg
                        rw [hgt0]
                        generalize u0.alloc (.cells #[.int .i64 (oth1 t).1, .int .i64 (oth1 t).2.1, .int .i64 (oth1 t).2.2] 36) = x6 at *
                        refine ⟨hS, ?_⟩
                        try simp only [Act.put, List.setIfInBounds_toArray]
                        refine anyS_one 1 (by kernel_rfl) rfl ?_
                        go_wp2_with fail
                        show _ ∧ _
                        have hrow := own_mtC x6 W0.heap.size hS.size
                        have hgt := hTg.lt
                        replace hTg := hTg.alloc (.cells #[] 36)
                        replace hS := hS.alloc hS.size (.cells #[] 36)
                        obtain ⟨ga, hga⟩ : ∃ ga, x6.heap.size = ga := ⟨_, rfl⟩
                        rw [hga] at hrow
                        have hne : gt ≠ ga := by omega
                        rw [hga]
                        generalize x6.alloc (.cells #[] 36) = x1 at *
                        refine ⟨hS, ?_⟩
                        try simp only [Act.put, List.setIfInBounds_toArray]
                        refine anyS_one 3 (by kernel_rfl) rfl ?_
                        refine wpList_copyT rfl _ _ rfl W0.heap.size _ rfl 0 [] hrow rfl a l c L rfl (hI.out _ (nextB BW0.out hS)) hlL.out hnil.out (by omega) hS.size ?_
                        intro v1 x3 ho1 hg1
                        show _ ∧ _
                        have hrl := hrow.lt
                        replace hTg := blk_grown hTg hg1 (fun e => hne (Option.some.inj e))
                        replace hS := hS.grown hg1 hS.size (fun q hq => (hrl q hq).1)
                        clear hrow hg1 hrl
                        refine ⟨hS, ?_⟩
                        try simp only [Act.put, List.setIfInBounds_toArray]
                        refine anyS_one 7 (by kernel_rfl) rfl ?_
                        refine wpList_copyT rfl _ _ rfl W0.heap.size _ rfl (0 + l) ([] ++ L) ho1 (by rw [List.nil_append, hlL.out, Nat.zero_add]) (some ⟨gt, 0, none⟩) 1 1 [(oth1 t)] rfl (trips_one hTg) rfl (fun h => by cases h) (by omega) hS.size ?_
                        intro v2 wz ho2 hg2
                        show _ ∧ _
                        have hrl2 := ho1.lt
                        replace hS := hS.grown hg2 hS.size (fun q hq => (hrl2 q hq).1)
                        rw [List.nil_append, Nat.zero_add] at ho2
                        obtain ⟨aw, cw, rfl, _, hTw, _⟩ := own_tripsA ho2 (by rw [List.length_append, List.length_singleton, hlL.out])
                        clear ho1 ho2 hg2 hrl2 hTg
                        refine ⟨hS, ?_⟩
                        try simp only [Act.put, List.setIfInBounds_toArray]
                        refine anyS_one 8 (by kernel_rfl) rfl ?_
                        go_wp2_with (go_at_call 11; (with_reducible refine (B1'.out _ _ _ (nextB BW0.out hS) hTw).mono ?_); rintro eq u2 ⟨rfl, hbw⟩)
                        show _ ∧ _
                        replace hS := nextB hS hbw
                        clear hbw hTw
                        refine ⟨hS, ?_⟩
                        try simp only [Act.put, List.setIfInBounds_toArray]
                        refine anyS_pure 9 (.tuple #[strV r1, .int .i64 e1]) rfl (by kernel_rfl) (by kernel_rfl) (by kernel_rfl) (fun _ _ _ h => h) (by rfl) (fun W hW => by go_simp) hS ?_
                        try simp only [Act.put]
                        refine anyS_pure 10 (strV r1) rfl (by kernel_rfl) (by kernel_rfl) (by kernel_rfl) (fun _ _ _ h => h) (by rfl) (fun W hW => by go_simp) hS ?_
                        try simp only [Act.put]
                        refine anyS_pure 11 (.int .i64 e1) rfl (by kernel_rfl) (by kernel_rfl) (by kernel_rfl) (fun _ _ _ h => h) (by rfl) (fun W hW => by go_simp) hS ?_
                        try simp only [Act.put]
                        refine anyS_pure 12 (strV r1) rfl (by kernel_rfl) (by kernel_rfl) (by kernel_rfl) (fun _ _ _ h => h) (by rfl) (fun W hW => by go_simp) hS ?_
                        try simp only [Act.put, List.setIfInBounds_toArray]
                        refine anyS_one 13 (by kernel_rfl) rfl ?_
                        go_wp2_with fail
                        show _ ∧ _
                        refine ⟨hS, ?_⟩
                        try simp only [Act.put, List.setIfInBounds_toArray]
                        refine anyS_end (by kernel_rfl) ?_
                        obtain ⟨y0, y1, y2⟩ := PT.out _ hS
                        have INy := INx.out _ (nextB D10.out hS)
                        cases hp0 : (e0 != 0)
                        all_goals
                          cases hp1 : (e1 != 0)
                        all_goals
                          rw [hp0, hp1] at INy
                          go_wp2_with fail
                          refine INy.mono ?_
                          rintro eq w9 ⟨rfl, hb9⟩
                          dsimp only
                          have B9 := nextB (nextB BW0.out hS) hb9
                          clear hb9
                          go_wp2_with (go_at_call 6; refine (C.out _ B9).mono ?_; rintro eq w10 ⟨rfl, hb10⟩)
                          go_ret
                          exact Ret.mk rfl (nextB B9 hb10)
                    · go_wp2_with fail
                      show _ ∧ _
                      have hTg := Blk.new x1 36 #[.int .i64 (oth0 t).1, .int .i64 (oth0 t).2.1, .int .i64 (oth0 t).2.2]
                      have hrl := hrow.lt
                      replace hrow := hrow.alloc (.cells #[.int .i64 (oth0 t).1, .int .i64 (oth0 t).2.1, .int .i64 (oth0 t).2.2] 36)
                      replace hS := hS.alloc hS.size (.cells #[.int .i64 (oth0 t).1, .int .i64 (oth0 t).2.1, .int .i64 (oth0 t).2.2] 36)
                      obtain ⟨gt, hgt0⟩ : ∃ gt, x1.heap.size = gt := ⟨_, rfl⟩
                      rw [hgt0] at hTg
                      have hne : gt ≠ ga := by have := (hrl ga rfl).2; omega
                      rw [hgt0]
                      generalize x1.alloc (.cells #[.int .i64 (oth0 t).1, .int .i64 (oth0 t).2.1, .int .i64 (oth0 t).2.2] 36) = x6 at *
                      refine ⟨hS, ?_⟩
                      try simp only [Act.put, List.setIfInBounds_toArray]
                      refine anyS_one 3 (by kernel_rfl) rfl ?_
                      refine wpList_copyT rfl _ _ rfl W0.heap.size _ rfl 0 [] hrow rfl a l c L rfl (hI.out _ (nextB BW0.out hS)) hlL.out hnil.out (by omega) hS.size ?_
                      intro v1 x3 ho1 hg1
                      show _ ∧ _
                      have hrl := hrow.lt
                      replace hTg := blk_grown hTg hg1 (fun e => hne (Option.some.inj e))
                      replace hS := hS.grown hg1 hS.size (fun q hq => (hrl q hq).1)
                      clear hrow hg1 hrl
                      refine ⟨hS, ?_⟩
                      try simp only [Act.put, List.setIfInBounds_toArray]
                      refine anyS_one 7 (by kernel_rfl) rfl ?_
                      refine wpList_copyT rfl _ _ rfl W0.heap.size _ rfl (0 + l) ([] ++ L) ho1 (by rw [List.nil_append, hlL.out, Nat.zero_add]) (some ⟨gt, 0, none⟩) 1 1 [(oth0 t)] rfl (trips_one hTg) rfl (fun h => by cases h) (by omega) hS.size ?_
                      intro v2 wz ho2 hg2
                      show _ ∧ _
                      have hrl2 := ho1.lt
                      replace hS := hS.grown hg2 hS.size (fun q hq => (hrl2 q hq).1)
                      rw [List.nil_append, Nat.zero_add] at ho2
                      obtain ⟨aw, cw, rfl, _, hTw, _⟩ := own_tripsA ho2 (by rw [List.length_append, List.length_singleton, hlL.out])
                      clear ho1 ho2 hg2 hrl2 hTg
                      refine ⟨hS, ?_⟩
                      try simp only [Act.put, List.setIfInBounds_toArray]
                      refine anyS_one 8 (by kernel_rfl) rfl ?_
                      go_wp2_with (go_at_call 11; (with_reducible refine (B0'.out _ _ _ (nextB BW0.out hS) hTw).mono ?_); rintro eq u2 ⟨rfl, hbw⟩)
                      show _ ∧ _
                      replace hS := nextB hS hbw
                      clear hbw hTw
                      refine ⟨hS, ?_⟩
                      try simp only [Act.put, List.setIfInBounds_toArray]
                      refine anyS_pure 9 (.tuple #[strV r0, .int .i64 e0]) rfl (by kernel_rfl) (by kernel_rfl) (by kernel_rfl) (fun _ _ _ h => h) (by rfl) (fun W hW => by go_simp) hS ?_
                      try simp only [Act.put]
                      refine anyS_pure 10 (strV r0) rfl (by kernel_rfl) (by kernel_rfl) (by kernel_rfl) (fun _ _ _ h => h) (by rfl) (fun W hW => by go_simp) hS ?_
                      try simp only [Act.put]
                      refine anyS_pure 11 (.int .i64 e0) rfl (by kernel_rfl) (by kernel_rfl) (by kernel_rfl) (fun _ _ _ h => h) (by rfl) (fun W hW => by go_simp) hS ?_
                      try simp only [Act.put]
                      refine anyS_pure 12 (strV r0) rfl (by kernel_rfl) (by kernel_rfl) (by kernel_rfl) (fun _ _ _ h => h) (by rfl) (fun W hW => by go_simp) hS ?_
                      try simp only [Act.put, List.setIfInBounds_toArray]
                      refine anyS_one 13 (by kernel_rfl) rfl ?_
                      go_wp2_with fail
                      show _ ∧ _
                      refine ⟨hS, ?_⟩
                      try simp only [Act.put, List.setIfInBounds_toArray]
                      refine anyS_end (by kernel_rfl) ?_
                      go_wp2
                      refine wp_region_S (fun W => Below W0.heap.size W0 W) (by kernel_rfl) ?_
                      show wpAnyS _ _ _ _ _ (13 + 1) _ _ _
                      replace hS := hS.drew
                      generalize u2.drew = u0 at *
                      refine anyS_pure 0 (.int .i64 (m : Int)) rfl (by kernel_rfl) (by kernel_rfl) (by kernel_rfl) (fun _ _ _ h => h) (by rfl) (fun W hW => by go_simp) hS ?_
                      refine anyS_pure 2 (.slice a l c) rfl (by kernel_rfl) (by kernel_rfl) (by kernel_rfl) (fun _ _ _ h => h) (by rfl) (fun W hW => by go_simp) hS ?_
                      refine anyS_pure 4 (.pointer (some ⟨g, 3, none⟩)) rfl (by kernel_rfl) (by kernel_rfl) (by kernel_rfl) (fun _ _ _ h => h) (by rfl) (fun W hW => by go_simp) hS ?_
                      refine anyS_pure 5 (t3V (oth1 t)) rfl (by kernel_rfl) (by kernel_rfl) (by kernel_rfl) (fun _ _ _ h => h) (by rfl) (fun W hW => by obtain ⟨y0, y1, y2⟩ := PU1.out W hW; go_simp) hS ?_
                      try simp only [Act.put, List.setIfInBounds_toArray]
                      refine anyS_two 1 6 (by kernel_rfl) rfl rfl ?_ ?_
                      · go_wp2_with fail
                        show _ ∧ _
                        have hrow := own_mtC u0 W0.heap.size hS.size
                        replace hS := hS.alloc hS.size (.cells #[] 36)
                        obtain ⟨ga, hga⟩ : ∃ ga, u0.heap.size = ga := ⟨_, rfl⟩
                        rw [hga] at hrow
                        rw [hga]
                        generalize u0.alloc (.cells #[] 36) = x1 at *
                        refine ⟨hS, ?_⟩
                        try simp only [Act.put, List.setIfInBounds_toArray]
                        refine anyS_two 3 6 (by kernel_rfl) rfl rfl ?_ ?_
                        · refine wpList_copyT rfl _ _ rfl W0.heap.size _ rfl 0 [] hrow rfl a l c L rfl (hI.out _ (nextB BW0.out hS)) hlL.out hnil.out (by omega) hS.size ?_
                          intro v1 x3 ho1 hg1
                          show _ ∧ _
                          have hrl := hrow.lt
                          replace hS := hS.grown hg1 hS.size (fun q hq => (hrl q hq).1)
                          clear hrow hg1 hrl
                          refine ⟨hS, ?_⟩
                          try simp only [Act.put, List.setIfInBounds_toArray]
                          refine anyS_one 6 (by kernel_rfl) rfl ?_
                          go_wp2_with fail
                          show _ ∧ _
                          have hTg := Blk.new x3 36 #[.int .i64 (oth1 t).1, .int .i64 (oth1 t).2.1, .int .i64 (oth1 t).2.2]
                          replace ho1 := ho1.alloc (.cells #[.int .i64 (oth1 t).1, .int .i64 (oth1 t).2.1, .int .i64 (oth1 t).2.2] 36)
                          replace hS := hS.alloc hS.size (.cells #[.int .i64 (oth1 t).1, .int .i64 (oth1 t).2.1, .int .i64 (oth1 t).2.2] 36)
                          obtain ⟨gt, hgt0⟩ : ∃ gt, x3.heap.size = gt := ⟨_, rfl⟩
                          rw [hgt0] at hTg
                          rw [hgt0]
                          generalize x3.alloc (.cells #[.int .i64 (oth1 t).1, .int .i64 (oth1 t).2.1, .int .i64 (oth1 t).2.2] 36) = x6 at *
                          refine ⟨hS, ?_⟩
                          try simp only [Act.put, List.setIfInBounds_toArray]
                          refine anyS_one 7 (by kernel_rfl) rfl ?_
                          refine wpList_copyT rfl _ _ rfl W0.heap.size _ rfl (0 + l) ([] ++ L) ho1 (by rw [List.nil_append, hlL.out, Nat.zero_add]) (some ⟨gt, 0, none⟩) 1 1 [(oth1 t)] rfl (trips_one hTg) rfl (fun h => by cases h) (by omega) hS.size ?_
                          intro v2 wz ho2 hg2
                          show _ ∧ _
                          have hrl2 := ho1.lt
                          replace hS := hS.grown hg2 hS.size (fun q hq => (hrl2 q hq).1)
                          rw [List.nil_append, Nat.zero_add] at ho2
                          obtain ⟨aw, cw, rfl, _, hTw, _⟩ := own_tripsA ho2 (by rw [List.length_append, List.length_singleton, hlL.out])
                          clear ho1 ho2 hg2 hrl2 hTg
                          refine ⟨hS, ?_⟩
                          try simp only [Act.put, List.setIfInBounds_toArray]
                          refine anyS_one 8 (by kernel_rfl) rfl ?_
                          go_wp2_with (go_at_call 11; (with_reducible refine (B1'.out _ _ _ (nextB BW0.out hS) hTw).mono ?_); rintro eq u2 ⟨rfl, hbw⟩)
                          show _ ∧ _
                          replace hS := nextB hS hbw
                          clear hbw hTw
                          refine ⟨hS, ?_⟩
                          try simp only [Act.put, List.setIfInBounds_toArray]
                          refine anyS_pure 9 (.tuple #[strV r1, .int .i64 e1]) rfl (by kernel_rfl) (by kernel_rfl) (by kernel_rfl) (fun _ _ _ h => h) (by rfl) (fun W hW => by go_simp) hS ?_
                          try simp only [Act.put]
                          refine anyS_pure 10 (strV r1) rfl (by kernel_rfl) (by kernel_rfl) (by kernel_rfl) (fun _ _ _ h => h) (by rfl) (fun W hW => by go_simp) hS ?_
                          try simp only [Act.put]
                          refine anyS_pure 11 (.int .i64 e1) rfl (by kernel_rfl) (by kernel_rfl) (by kernel_rfl) (fun _ _ _ h => h) (by rfl) (fun W hW => by go_simp) hS ?_
                          try simp only [Act.put]
                          refine anyS_pure 12 (strV r1) rfl (by kernel_rfl) (by kernel_rfl) (by kernel_rfl) (fun _ _ _ h => h) (by rfl) (fun W hW => by go_simp) hS ?_
                          try simp only [Act.put, List.setIfInBounds_toArray]
                          refine anyS_one 13 (by kernel_rfl) rfl ?_
                          go_wp2_with fail
                          show _ ∧ _
                          refine ⟨hS, ?_⟩
                          try simp only [Act.put, List.setIfInBounds_toArray]
                          refine anyS_end (by kernel_rfl) ?_
                          obtain ⟨y0, y1, y2⟩ := PT.out _ hS
                          have INy := INx.out _ (nextB D10.out hS)
                          cases hp0 : (e0 != 0)
                          all_goals
                            cases hp1 : (e1 != 0)
                          all_goals
                            rw [hp0, hp1] at INy
                            go_wp2_with fail
                            refine INy.mono ?_
                            rintro eq w9 ⟨rfl, hb9⟩
                            dsimp only
                            have B9 := nextB (nextB BW0.out hS) hb9
                            clear hb9
                            go_wp2_with (go_at_call 6; refine (C.out _ B9).mono ?_; rintro eq w10 ⟨rfl, hb10⟩)
                            go_ret
                            exact Ret.mk rfl (nextB B9 hb10)
                        · go_wp2_with fail
                          show _ ∧ _
                          have hTg := Blk.new x1 36 #[.int .i64 (oth1 t).1, .int .i64 (oth1 t).2.1, .int .i64 (oth1 t).2.2]
                          have hrl := hrow.lt
                          replace hrow := hrow.alloc (.cells #[.int .i64 (oth1 t).1, .int .i64 (oth1 t).2.1, .int .i64 (oth1 t).2.2] 36)
                          replace hS := hS.alloc hS.size (.cells #[.int .i64 (oth1 t).1, .int .i64 (oth1 t).2.1, .int .i64 (oth1 t).2.2] 36)
                          obtain ⟨gt, hgt0⟩ : ∃ gt, x1.heap.size = gt := ⟨_, rfl⟩
                          rw [hgt0] at hTg
                          have hne : gt ≠ ga := by have := (hrl ga rfl).2; omega
                          rw [hgt0]
                          generalize x1.alloc (.cells #[.int .i64 (oth1 t).1, .int .i64 (oth1 t).2.1, .int .i64 (oth1 t).2.2] 36) = x6 at *
                          refine ⟨hS, ?_⟩
                          try simp only [Act.put, List.setIfInBounds_toArray]
                          refine anyS_one 3 (by kernel_rfl) rfl ?_
                          refine wpList_copyT rfl _ _ rfl W0.heap.size _ rfl 0 [] hrow rfl a l c L rfl (hI.out _ (nextB BW0.out hS)) hlL.out hnil.out (by omega) hS.size ?_
                          intro v1 x3 ho1 hg1
                          show _ ∧ _
                          have hrl := hrow.lt
                          replace hTg := blk_grown hTg hg1 (fun e => hne (Option.some.inj e))
                          replace hS := hS.grown hg1 hS.size (fun q hq => (hrl q hq).1)
                          clear hrow hg1 hrl
                          refine ⟨hS, ?_⟩
                          try simp only [Act.put, List.setIfInBounds_toArray]
                          refine anyS_one 7 (by kernel_rfl) rfl ?_
                          refine wpList_copyT rfl _ _ rfl W0.heap.size _ rfl (0 + l) ([] ++ L) ho1 (by rw [List.nil_append, hlL.out, Nat.zero_add]) (some ⟨gt, 0, none⟩) 1 1 [(oth1 t)] rfl (trips_one hTg) rfl (fun h => by cases h) (by omega) hS.size ?_
                          intro v2 wz ho2 hg2
                          show _ ∧ _
                          have hrl2 := ho1.lt
                          replace hS := hS.grown hg2 hS.size (fun q hq => (hrl2 q hq).1)
                          rw [List.nil_append, Nat.zero_add] at ho2
                          obtain ⟨aw, cw, rfl, _, hTw, _⟩ := own_tripsA ho2 (by rw [List.length_append, List.length_singleton, hlL.out])
                          clear ho1 ho2 hg2 hrl2 hTg
                          refine ⟨hS, ?_⟩
                          try simp only [Act.put, List.setIfInBounds_toArray]
                          refine anyS_one 8 (by kernel_rfl) rfl ?_
                          go_wp2_with (go_at_call 11; (with_reducible refine (B1'.out _ _ _ (nextB BW0.out hS) hTw).mono ?_); rintro eq u2 ⟨rfl, hbw⟩)
                          show _ ∧ _
                          replace hS := nextB hS hbw
                          clear hbw hTw
                          refine ⟨hS, ?_⟩
                          try simp only [Act.put, List.setIfInBounds_toArray]
                          refine anyS_pure 9 (.tuple #[strV r1, .int .i64 e1]) rfl (by kernel_rfl) (by kernel_rfl) (by kernel_rfl) (fun _ _ _ h => h) (by rfl) (fun W hW => by go_simp) hS ?_
                          try simp only [Act.put]
                          refine anyS_pure 10 (strV r1) rfl (by kernel_rfl) (by kernel_rfl) (by kernel_rfl) (fun _ _ _ h => h) (by rfl) (fun W hW => by go_simp) hS ?_
                          try simp only [Act.put]
                          refine anyS_pure 11 (.int .i64 e1) rfl (by kernel_rfl) (by kernel_rfl) (by kernel_rfl) (fun _ _ _ h => h) (by rfl) (fun W hW => by go_simp) hS ?_
                          try simp only [Act.put]
                          refine anyS_pure 12 (strV r1) rfl (by kernel_rfl) (by kernel_rfl) (by kernel_rfl) (fun _ _ _ h => h) (by rfl) (fun W hW => by go_simp) hS ?_
                          try simp only [Act.put, List.setIfInBounds_toArray]
                          refine anyS_one 13 (by kernel_rfl) rfl ?_
                          go_wp2_with fail
                          show _ ∧ _
                          refine ⟨hS, ?_⟩
                          try simp only [Act.put, List.setIfInBounds_toArray]
                          refine anyS_end (by kernel_rfl) ?_
                          obtain ⟨y0, y1, y2⟩ := PT.out _ hS
                          have INy := INx.out _ (nextB D10.out hS)
                          cases hp0 : (e0 != 0)
                          all_goals
                            cases hp1 : (e1 != 0)
                          all_goals
                            rw [hp0, hp1] at INy
                            go_wp2_with fail
                            refine INy.mono ?_
                            rintro eq w9 ⟨rfl, hb9⟩
                            dsimp only
                            have B9 := nextB (nextB BW0.out hS) hb9
                            clear hb9
                            go_wp2_with (go_at_call 6; refine (C.out _ B9).mono ?_; rintro eq w10 ⟨rfl, hb10⟩)
                            go_ret
                            exact Ret.mk rfl (nextB B9 hb10)
                      · go_wp2_with fail
                        show _ ∧ _
                        have hTg := Blk.new u0 36 #[.int .i64 (oth1 t).1, .int .i64 (oth1 t).2.1, .int .i64 (oth1 t).2.2]
                        replace hS := hS.alloc hS.size (.cells #[.int .i64 (oth1 t).1, .int .i64 (oth1 t).2.1, .int .i64 (oth1 t).2.2] 36)
                        obtain ⟨gt, hgt0⟩ : ∃ gt, u0.heap.size = gt := ⟨_, rfl⟩
                        rw [hgt0] at hTg
                        rw [hgt0]
                        generalize u0.alloc (.cells #[.int .i64 (oth1 t).1, .int .i64 (oth1 t).2.1, .int .i64 (oth1 t).2.2] 36) = x6 at *
                        refine ⟨hS, ?_⟩
                        try simp only [Act.put, List.setIfInBounds_toArray]
                        refine anyS_one 1 (by kernel_rfl) rfl ?_
                        go_wp2_with fail
                        show _ ∧ _
                        have hrow := own_mtC x6 W0.heap.size hS.size
                        have hgt := hTg.lt
                        replace hTg := hTg.alloc (.cells #[] 36)
                        replace hS := hS.alloc hS.size (.cells #[] 36)
                        obtain ⟨ga, hga⟩ : ∃ ga, x6.heap.size = ga := ⟨_, rfl⟩
                        rw [hga] at hrow
                        have hne : gt ≠ ga := by omega
                        rw [hga]
                        generalize x6.alloc (.cells #[] 36) = x1 at *
                        refine ⟨hS, ?_⟩
                        try simp only [Act.put, List.setIfInBounds_toArray]
                        refine anyS_one 3 (by kernel_rfl) rfl ?_
                        refine wpList_copyT rfl _ _ rfl W0.heap.size _ rfl 0 [] hrow rfl a l c L rfl (hI.out _ (nextB BW0.out hS)) hlL.out hnil.out (by omega) hS.size ?_
                        intro v1 x3 ho1 hg1
                        show _ ∧ _
                        have hrl := hrow.lt
                        replace hTg := blk_grown hTg hg1 (fun e => hne (Option.some.inj e))
                        replace hS := hS.grown hg1 hS.size (fun q hq => (hrl q hq).1)
                        clear hrow hg1 hrl
                        refine ⟨hS, ?_⟩
                        try simp only [Act.put, List.setIfInBounds_toArray]
                        refine anyS_one 7 (by kernel_rfl) rfl ?_
                        refine wpList_copyT rfl _ _ rfl W0.heap.size _ rfl (0 + l) ([] ++ L) ho1 (by rw [List.nil_append, hlL.out, Nat.zero_add]) (some ⟨gt, 0, none⟩) 1 1 [(oth1 t)] rfl (trips_one hTg) rfl (fun h => by cases h) (by omega) hS.size ?_
                        intro v2 wz ho2 hg2
                        show _ ∧ _
                        have hrl2 := ho1.lt
                        replace hS := hS.grown hg2 hS.size (fun q hq => (hrl2 q hq).1)
                        rw [List.nil_append, Nat.zero_add] at ho2
                        obtain ⟨aw, cw, rfl, _, hTw, _⟩ := own_tripsA ho2 (by rw [List.length_append, List.length_singleton, hlL.out])
                        clear ho1 ho2 hg2 hrl2 hTg
                        refine ⟨hS, ?_⟩
                        try simp only [Act.put, List.setIfInBounds_toArray]
                        refine anyS_one 8 (by kernel_rfl) rfl ?_
                        go_wp2_with (go_at_call 11; (with_reducible refine (B1'.out _ _ _ (nextB BW0.out hS) hTw).mono ?_); rintro eq u2 ⟨rfl, hbw⟩)
                        show _ ∧ _
                        replace hS := nextB hS hbw
                        clear hbw hTw
                        refine ⟨hS, ?_⟩
                        try simp only [Act.put, List.setIfInBounds_toArray]
                        refine anyS_pure 9 (.tuple #[strV r1, .int .i64 e1]) rfl (by kernel_rfl) (by kernel_rfl) (by kernel_rfl) (fun _ _ _ h => h) (by rfl) (fun W hW => by go_simp) hS ?_
                        try simp only [Act.put]
                        refine anyS_pure 10 (strV r1) rfl (by kernel_rfl) (by kernel_rfl) (by kernel_rfl) (fun _ _ _ h => h) (by rfl) (fun W hW => by go_simp) hS ?_
                        try simp only [Act.put]
                        refine anyS_pure 11 (.int .i64 e1) rfl (by kernel_rfl) (by kernel_rfl) (by kernel_rfl) (fun _ _ _ h => h) (by rfl) (fun W hW => by go_simp) hS ?_
                        try simp only [Act.put]
                        refine anyS_pure 12 (strV r1) rfl (by kernel_rfl) (by kernel_rfl) (by kernel_rfl) (fun _ _ _ h => h) (by rfl) (fun W hW => by go_simp) hS ?_
                        try simp only [Act.put, List.setIfInBounds_toArray]
                        refine anyS_one 13 (by kernel_rfl) rfl ?_
                        go_wp2_with fail
                        show _ ∧ _
                        refine ⟨hS, ?_⟩
                        try simp only [Act.put, List.setIfInBounds_toArray]
                        refine anyS_end (by kernel_rfl) ?_
                        obtain ⟨y0, y1, y2⟩ := PT.out _ hS
                        have INy := INx.out _ (nextB D10.out hS)
                        cases hp0 : (e0 != 0)
                        all_goals
                          cases hp1 : (e1 != 0)
                        all_goals
                          rw [hp0, hp1] at INy
                          go_wp2_with fail
                          refine INy.mono ?_
                          rintro eq w9 ⟨rfl, hb9⟩
                          dsimp only
                          have B9 := nextB (nextB BW0.out hS) hb9
                          clear hb9
                          go_wp2_with (go_at_call 6; refine (C.out _ B9).mono ?_; rintro eq w10 ⟨rfl, hb10⟩)
                          go_ret
                          exact Ret.mk rfl (nextB B9 hb10)
                  · go_wp2_with fail
                    show _ ∧ _
                    have hTg := Blk.new u0 36 #[.int .i64 (oth0 t).1, .int .i64 (oth0 t).2.1, .int .i64 (oth0 t).2.2]
                    replace hS := hS.alloc hS.size (.cells #[.int .i64 (oth0 t).1, .int .i64 (oth0 t).2.1, .int .i64 (oth0 t).2.2] 36)
                    obtain ⟨gt, hgt0⟩ : ∃ gt, u0.heap.size = gt := ⟨_, rfl⟩
                    rw [hgt0] at hTg
                    rw [hgt0]
                    generalize u0.alloc (.cells #[.int .i64 (oth0 t).1, .int .i64 (oth0 t).2.1, .int .i64 (oth0 t).2.2] 36) = x6 at *
                    refine ⟨hS, ?_⟩
                    try simp only [Act.put, List.setIfInBounds_toArray]
                    refine anyS_one 1 (by kernel_rfl) rfl ?_
                    go_wp2_with fail
                    show _ ∧ _
                    have hrow := own_mtC x6 W0.heap.size hS.size
                    have hgt := hTg.lt
                    replace hTg := hTg.alloc (.cells #[] 36)
                    replace hS := hS.alloc hS.size (.cells #[] 36)
                    obtain ⟨ga, hga⟩ : ∃ ga, x6.heap.size = ga := ⟨_, rfl⟩
                    rw [hga] at hrow
                    have hne : gt ≠ ga := by omega
                    rw [hga]
                    generalize x6.alloc (.cells #[] 36) = x1 at *
                    refine ⟨hS, ?_⟩
                    try simp only [Act.put, List.setIfInBounds_toArray]
                    refine anyS_one 3 (by kernel_rfl) rfl ?_
                    refine wpList_copyT rfl _ _ rfl W0.heap.size _ rfl 0 [] hrow rfl a l c L rfl (hI.out _ (nextB BW0.out hS)) hlL.out hnil.out (by omega) hS.size ?_
                    intro v1 x3 ho1 hg1
                    show _ ∧ _
                    have hrl := hrow.lt
                    replace hTg := blk_grown hTg hg1 (fun e => hne (Option.some.inj e))
                    replace hS := hS.grown hg1 hS.size (fun q hq => (hrl q hq).1)
                    clear hrow hg1 hrl
                    refine ⟨hS, ?_⟩
                    try simp only [Act.put, List.setIfInBounds_toArray]
                    refine anyS_one 7 (by kernel_rfl) rfl ?_
                    refine wpList_copyT rfl _ _ rfl W0.heap.size _ rfl (0 + l) ([] ++ L) ho1 (by rw [List.nil_append, hlL.out, Nat.zero_add]) (some ⟨gt, 0, none⟩) 1 1 [(oth0 t)] rfl (trips_one hTg) rfl (fun h => by cases h) (by omega) hS.size ?_
                    intro v2 wz ho2 hg2
                    show _ ∧ _
                    have hrl2 := ho1.lt
                    replace hS := hS.grown hg2 hS.size (fun q hq => (hrl2 q hq).1)
                    rw [List.nil_append, Nat.zero_add] at ho2
                    obtain ⟨aw, cw, rfl, _, hTw, _⟩ := own_tripsA ho2 (by rw [List.length_append, List.length_singleton, hlL.out])
                    clear ho1 ho2 hg2 hrl2 hTg
                    refine ⟨hS, ?_⟩
                    try simp only [Act.put, List.setIfInBounds_toArray]
                    refine anyS_one 8 (by kernel_rfl) rfl ?_
                    go_wp2_with (go_at_call 11; (with_reducible refine (B0'.out _ _ _ (nextB BW0.out hS) hTw).mono ?_); rintro eq u2 ⟨rfl, hbw⟩)
                    show _ ∧ _
                    replace hS := nextB hS hbw
                    clear hbw hTw
                    refine ⟨hS, ?_⟩
                    try simp only [Act.put, List.setIfInBounds_toArray]
                    refine anyS_pure 9 (.tuple #[strV r0, .int .i64 e0]) rfl (by kernel_rfl) (by kernel_rfl) (by kernel_rfl) (fun _ _ _ h => h) (by rfl) (fun W hW => by go_simp) hS ?_
                    try simp only [Act.put]
                    refine anyS_pure 10 (strV r0) rfl (by kernel_rfl) (by kernel_rfl) (by kernel_rfl) (fun _ _ _ h => h) (by rfl) (fun W hW => by go_simp) hS ?_
                    try simp only [Act.put]
                    refine anyS_pure 11 (.int .i64 e0) rfl (by kernel_rfl) (by kernel_rfl) (by kernel_rfl) (fun _ _ _ h => h) (by rfl) (fun W hW => by go_simp) hS ?_
                    try simp only [Act.put]
                    refine anyS_pure 12 (strV r0) rfl (by kernel_rfl) (by kernel_rfl) (by kernel_rfl) (fun _ _ _ h => h) (by rfl) (fun W hW => by go_simp) hS ?_
                    try simp only [Act.put, List.setIfInBounds_toArray]
                    refine anyS_one 13 (by kernel_rfl) rfl ?_
                    go_wp2_with fail
                    show _ ∧ _
                    refine ⟨hS, ?_⟩
                    try simp only [Act.put, List.setIfInBounds_toArray]
                    refine anyS_end (by kernel_rfl) ?_
                    go_wp2
                    refine wp_region_S (fun W => Below W0.heap.size W0 W) (by kernel_rfl) ?_
                    show wpAnyS _ _ _ _ _ (13 + 1) _ _ _
                    replace hS := hS.drew
                    generalize u2.drew = u0 at *
                    refine anyS_pure 0 (.int .i64 (m : Int)) rfl (by kernel_rfl) (by kernel_rfl) (by kernel_rfl) (fun _ _ _ h => h) (by rfl) (fun W hW => by go_simp) hS ?_
                    refine anyS_pure 2 (.slice a l c) rfl (by kernel_rfl) (by kernel_rfl) (by kernel_rfl) (fun _ _ _ h => h) (by rfl) (fun W hW => by go_simp) hS ?_
                    refine anyS_pure 4 (.pointer (some ⟨g, 3, none⟩)) rfl (by kernel_rfl) (by kernel_rfl) (by kernel_rfl) (fun _ _ _ h => h) (by rfl) (fun W hW => by go_simp) hS ?_
                    refine anyS_pure 5 (t3V (oth1 t)) rfl (by kernel_rfl) (by kernel_rfl) (by kernel_rfl) (fun _ _ _ h => h) (by rfl) (fun W hW => by obtain ⟨y0, y1, y2⟩ := PU1.out W hW; go_simp) hS ?_
                    try simp only [Act.put, List.setIfInBounds_toArray]
                    refine anyS_two 1 6 (by kernel_rfl) rfl rfl ?_ ?_
                    · go_wp2_with fail
                      show _ ∧ _
                      have hrow := own_mtC u0 W0.heap.size hS.size
                      replace hS := hS.alloc hS.size (.cells #[] 36)
                      obtain ⟨ga, hga⟩ : ∃ ga, u0.heap.size = ga := ⟨_, rfl⟩
                      rw [hga] at hrow
                      rw [hga]
                      generalize u0.alloc (.cells #[] 36) = x1 at *
                      refine ⟨hS, ?_⟩
                      try simp only [Act.put, List.setIfInBounds_toArray]
                      refine anyS_two 3 6 (by kernel_rfl) rfl rfl ?_ ?_
                      · refine wpList_copyT rfl _ _ rfl W0.heap.size _ rfl 0 [] hrow rfl a l c L rfl (hI.out _ (nextB BW0.out hS)) hlL.out hnil.out (by omega) hS.size ?_
                        intro v1 x3 ho1 hg1
                        show _ ∧ _
                        have hrl := hrow.lt
                        replace hS := hS.grown hg1 hS.size (fun q hq => (hrl q hq).1)
                        clear hrow hg1 hrl
                        refine ⟨hS, ?_⟩
                        try simp only [Act.put, List.setIfInBounds_toArray]
                        refine anyS_one 6 (by kernel_rfl) rfl ?_
                        go_wp2_with fail
                        show _ ∧ _
                        have hTg := Blk.new x3 36 #[.int .i64 (oth1 t).1, .int .i64 (oth1 t).2.1, .int .i64 (oth1 t).2.2]
                        replace ho1 := ho1.alloc (.cells #[.int .i64 (oth1 t).1, .int .i64 (oth1 t).2.1, .int .i64 (oth1 t).2.2] 36)
                        replace hS := hS.alloc hS.size (.cells #[.int .i64 (oth1 t).1, .int .i64 (oth1 t).2.1, .int .i64 (oth1 t).2.2] 36)
                        obtain ⟨gt, hgt0⟩ : ∃ gt, x3.heap.size = gt := ⟨_, rfl⟩
                        rw [hgt0] at hTg
                        rw [hgt0]
                        generalize x3.alloc (.cells #[.int .i64 (oth1 t).1, .int .i64 (oth1 t).2.1, .int .i64 (oth1 t).2.2] 36) = x6 at *
                        refine ⟨hS, ?_⟩
                        try simp only [Act.put, List.setIfInBounds_toArray]
                        refine anyS_one 7 (by kernel_rfl) rfl ?_
                        refine wpList_copyT rfl _ _ rfl W0.heap.size _ rfl (0 + l) ([] ++ L) ho1 (by rw [List.nil_append, hlL.out, Nat.zero_add]) (some ⟨gt, 0, none⟩) 1 1 [(oth1 t)] rfl (trips_one hTg) rfl (fun h => by cases h) (by omega) hS.size ?_
                        intro v2 wz ho2 hg2
                        show _ ∧ _
                        have hrl2 := ho1.lt
                        replace hS := hS.grown hg2 hS.size (fun q hq => (hrl2 q hq).1)
                        rw [List.nil_append, Nat.zero_add] at ho2
                        obtain ⟨aw, cw, rfl, _, hTw, _⟩ := own_tripsA ho2 (by rw [List.length_append, List.length_singleton, hlL.out])
                        clear ho1 ho2 hg2 hrl2 hTg
                        refine ⟨hS, ?_⟩
                        try simp only [Act.put, List.setIfInBounds_toArray]
                        refine anyS_one 8 (by kernel_rfl) rfl ?_
                        go_wp2_with (go_at_call 11; (with_reducible refine (B1'.out _ _ _ (nextB BW0.out hS) hTw).mono ?_); rintro eq u2 ⟨rfl, hbw⟩)
                        show _ ∧ _
                        replace hS := nextB hS hbw
                        clear hbw hTw
                        refine ⟨hS, ?_⟩
                        try simp only [Act.put, List.setIfInBounds_toArray]
                        refine anyS_pure 9 (.tuple #[strV r1, .int .i64 e1]) rfl (by kernel_rfl) (by kernel_rfl) (by kernel_rfl) (fun _ _ _ h => h) (by rfl) (fun W hW => by go_simp) hS ?_
                        try simp only [Act.put]
                        refine anyS_pure 10 (strV r1) rfl (by kernel_rfl) (by kernel_rfl) (by kernel_rfl) (fun _ _ _ h => h) (by rfl) (fun W hW => by go_simp) hS ?_
                        try simp only [Act.put]
                        refine anyS_pure 11 (.int .i64 e1) rfl (by kernel_rfl) (by kernel_rfl) (by kernel_rfl) (fun _ _ _ h => h) (by rfl) (fun W hW => by go_simp) hS ?_
                        try simp only [Act.put]
                        refine anyS_pure 12 (strV r1) rfl (by kernel_rfl) (by kernel_rfl) (by kernel_rfl) (fun _ _ _ h => h) (by rfl) (fun W hW => by go_simp) hS ?_
                        try simp only [Act.put, List.setIfInBounds_toArray]
                        refine anyS_one 13 (by kernel_rfl) rfl ?_
                        go_wp2_with fail
                        show _ ∧ _
                        refine ⟨hS, ?_⟩
                        try simp only [Act.put, List.setIfInBounds_toArray]
                        refine anyS_end (by kernel_rfl) ?_
                        obtain ⟨y0, y1, y2⟩ := PT.out _ hS
                        have INy := INx.out _ (nextB D10.out hS)
                        cases hp0 : (e0 != 0)
                        all_goals
                          cases hp1 : (e1 != 0)
                        all_goals
                          rw [hp0, hp1] at INy
                          go_wp2_with fail
                          refine INy.mono ?_
                          rintro eq w9 ⟨rfl, hb9⟩
                          dsimp only
                          have B9 := nextB (nextB BW0.out hS) hb9
                          clear hb9
                          go_wp2_with (go_at_call 6; refine (C.out _ B9).mono ?_; rintro eq w10 ⟨rfl, hb10⟩)
                          go_ret
                          exact Ret.mk rfl (nextB B9 hb10)
                      · go_wp2_with fail
                        show _ ∧ _
                        have hTg := Blk.new x1 36 #[.int .i64 (oth1 t).1, .int .i64 (oth1 t).2.1, .int .i64 (oth1 t).2.2]
                        have hrl := hrow.lt
                        replace hrow := hrow.alloc (.cells #[.int .i64 (oth1 t).1, .int .i64 (oth1 t).2.1, .int .i64 (oth1 t).2.2] 36)
                        replace hS := hS.alloc hS.size (.cells #[.int .i64 (oth1 t).1, .int .i64 (oth1 t).2.1, .int .i64 (oth1 t).2.2] 36)
                        obtain ⟨gt, hgt0⟩ : ∃ gt, x1.heap.size = gt := ⟨_, rfl⟩
                        rw [hgt0] at hTg
                        have hne : gt ≠ ga := by have := (hrl ga rfl).2; omega
                        rw [hgt0]
                        generalize x1.alloc (.cells #[.int .i64 (oth1 t).1, .int .i64 (oth1 t).2.1, .int .i64 (oth1 t).2.2] 36) = x6 at *
                        refine ⟨hS, ?_⟩
                        try simp only [Act.put, List.setIfInBounds_toArray]
                        refine anyS_one 3 (by kernel_rfl) rfl ?_
                        refine wpList_copyT rfl _ _ rfl W0.heap.size _ rfl 0 [] hrow rfl a l c L rfl (hI.out _ (nextB BW0.out hS)) hlL.out hnil.out (by omega) hS.size ?_
                        intro v1 x3 ho1 hg1
                        show _ ∧ _
                        have hrl := hrow.lt
                        replace hTg := blk_grown hTg hg1 (fun e => hne (Option.some.inj e))
                        replace hS := hS.grown hg1 hS.size (fun q hq => (hrl q hq).1)
                        clear hrow hg1 hrl
                        refine ⟨hS, ?_⟩
                        try simp only [Act.put, List.setIfInBounds_toArray]
                        refine anyS_one 7 (by kernel_rfl) rfl ?_
                        refine wpList_copyT rfl _ _ rfl W0.heap.size _ rfl (0 + l) ([] ++ L) ho1 (by rw [List.nil_append, hlL.out, Nat.zero_add]) (some ⟨gt, 0, none⟩) 1 1 [(oth1 t)] rfl (trips_one hTg) rfl (fun h => by cases h) (by omega) hS.size ?_
                        intro v2 wz ho2 hg2
                        show _ ∧ _
                        have hrl2 := ho1.lt
                        replace hS := hS.grown hg2 hS.size (fun q hq => (hrl2 q hq).1)
                        rw [List.nil_append, Nat.zero_add] at ho2
                        obtain ⟨aw, cw, rfl, _, hTw, _⟩ := own_tripsA ho2 (by rw [List.length_append, List.length_singleton, hlL.out])
                        clear ho1 ho2 hg2 hrl2 hTg
                        refine ⟨hS, ?_⟩
                        try simp only [Act.put, List.setIfInBounds_toArray]
                        refine anyS_one 8 (by kernel_rfl) rfl ?_
                        go_wp2_with (go_at_call 11; (with_reducible refine (B1'.out _ _ _ (nextB BW0.out hS) hTw).mono ?_); rintro eq u2 ⟨rfl, hbw⟩)
                        show _ ∧ _
                        replace hS := nextB hS hbw
                        clear hbw hTw
                        refine ⟨hS, ?_⟩
                        try simp only [Act.put, List.setIfInBounds_toArray]
                        refine anyS_pure 9 (.tuple #[strV r1, .int .i64 e1]) rfl (by kernel_rfl) (by kernel_rfl) (by kernel_rfl) (fun _ _ _ h => h) (by rfl) (fun W hW => by go_simp) hS ?_
                        try simp only [Act.put]
                        refine anyS_pure 10 (strV r1) rfl (by kernel_rfl) (by kernel_rfl) (by kernel_rfl) (fun _ _ _ h => h) (by rfl) (fun W hW => by go_simp) hS ?_
                        try simp only [Act.put]
                        refine anyS_pure 11 (.int .i64 e1) rfl (by kernel_rfl) (by kernel_rfl) (by kernel_rfl) (fun _ _ _ h => h) (by rfl) (fun W hW => by go_simp) hS ?_
                        try simp only [Act.put]
                        refine anyS_pure 12 (strV r1) rfl (by kernel_rfl) (by kernel_rfl) (by kernel_rfl) (fun _ _ _ h => h) (by rfl) (fun W hW => by go_simp) hS ?_
                        try simp only [Act.put, List.setIfInBounds_toArray]
                        refine anyS_one 13 (by kernel_rfl) rfl ?_
                        go_wp2_with fail
                        show _ ∧ _
                        refine ⟨hS, ?_⟩
                        try simp only [Act.put, List.setIfInBounds_toArray]
                        refine anyS_end (by kernel_rfl) ?_
                        obtain ⟨y0, y1, y2⟩ := PT.out _ hS
                        have INy := INx.out _ (nextB D10.out hS)
                        cases hp0 : (e0 != 0)
                        all_goals
                          cases hp1 : (e1 != 0)
                        all_goals
                          rw [hp0, hp1] at INy
                          go_wp2_with fail
                          refine INy.mono ?_
                          rintro eq w9 ⟨rfl, hb9⟩
                          dsimp only
                          have B9 := nextB (nextB BW0.out hS) hb9
                          clear hb9
                          go_wp2_with (go_at_call 6; refine (C.out _ B9).mono ?_; rintro eq w10 ⟨rfl, hb10⟩)
                          go_ret
                          exact Ret.mk rfl (nextB B9 hb10)
                    · go_wp2_with fail
                      show _ ∧ _
                      have hTg := Blk.new u0 36 #[.int .i64 (oth1 t).1, .int .i64 (oth1 t).2.1, .int .i64 (oth1 t).2.2]
                      replace hS := hS.alloc hS.size (.cells #[.int .i64 (oth1 t).1, .int .i64 (oth1 t).2.1, .int .i64 (oth1 t).2.2] 36)
                      obtain ⟨gt, hgt0⟩ : ∃ gt, u0.heap.size = gt := ⟨_, rfl⟩
                      rw [hgt0] at hTg
                      rw [hgt0]
                      generalize u0.alloc (.cells #[.int .i64 (oth1 t).1, .int .i64 (oth1 t).2.1, .int .i64 (oth1 t).2.2] 36) = x6 at *
                      refine ⟨hS, ?_⟩
                      try simp only [Act.put, List.setIfInBounds_toArray]
                      refine anyS_one 1 (by kernel_rfl) rfl ?_
                      go_wp2_with fail
                      show _ ∧ _
                      have hrow := own_mtC x6 W0.heap.size hS.size
                      have hgt := hTg.lt
                      replace hTg := hTg.alloc (.cells #[] 36)
                      replace hS := hS.alloc hS.size (.cells #[] 36)
                      obtain ⟨ga, hga⟩ : ∃ ga, x6.heap.size = ga := ⟨_, rfl⟩
                      rw [hga] at hrow
                      have hne : gt ≠ ga := by omega
                      rw [hga]
                      generalize x6.alloc (.cells #[] 36) = x1 at *
                      refine ⟨hS, ?_⟩
                      try simp only [Act.put, List.setIfInBounds_toArray]
                      refine anyS_one 3 (by kernel_rfl) rfl ?_
                      refine wpList_copyT rfl _ _ rfl W0.heap.size _ rfl 0 [] hrow rfl a l c L rfl (hI.out _ (nextB BW0.out hS)) hlL.out hnil.out (by omega) hS.size ?_
                      intro v1 x3 ho1 hg1
                      show _ ∧ _
                      have hrl := hrow.lt
                      replace hTg := blk_grown hTg hg1 (fun e => hne (Option.some.inj e))
                      replace hS := hS.grown hg1 hS.size (fun q hq => (hrl q hq).1)
                      clear hrow hg1 hrl
                      refine ⟨hS, ?_⟩
                      try simp only [Act.put, List.setIfInBounds_toArray]
                      refine anyS_one 7 (by kernel_rfl) rfl ?_
                      refine wpList_copyT rfl _ _ rfl W0.heap.size _ rfl (0 + l) ([] ++ L) ho1 (by rw [List.nil_append, hlL.out, Nat.zero_add]) (some ⟨gt, 0, none⟩) 1 1 [(oth1 t)] rfl (trips_one hTg) rfl (fun h => by cases h) (by omega) hS.size ?_
                      intro v2 wz ho2 hg2
                      show _ ∧ _
                      have hrl2 := ho1.lt
                      replace hS := hS.grown hg2 hS.size (fun q hq => (hrl2 q hq).1)
                      rw [List.nil_append, Nat.zero_add] at ho2
                      obtain ⟨aw, cw, rfl, _, hTw, _⟩ := own_tripsA ho2 (by rw [List.length_append, List.length_singleton, hlL.out])
                      clear ho1 ho2 hg2 hrl2 hTg
                      refine ⟨hS, ?_⟩
                      try simp only [Act.put, List.setIfInBounds_toArray]
                      refine anyS_one 8 (by kernel_rfl) rfl ?_
                      go_wp2_with (go_at_call 11; (with_reducible refine (B1'.out _ _ _ (nextB BW0.out hS) hTw).mono ?_); rintro eq u2 ⟨rfl, hbw⟩)
                      show _ ∧ _
                      replace hS := nextB hS hbw
                      clear hbw hTw
                      refine ⟨hS, ?_⟩
                      try simp only [Act.put, List.setIfInBounds_toArray]
                      refine anyS_pure 9 (.tuple #[strV r1, .int .i64 e1]) rfl (by kernel_rfl) (by kernel_rfl) (by kernel_rfl) (fun _ _ _ h => h) (by rfl) (fun W hW => by go_simp) hS ?_
                      try simp only [Act.put]
                      refine anyS_pure 10 (strV r1) rfl (by kernel_rfl) (by kernel_rfl) (by kernel_rfl) (fun _ _ _ h => h) (by rfl) (fun W hW => by go_simp) hS ?_
                      try simp only [Act.put]
                      refine anyS_pure 11 (.int .i64 e1) rfl (by kernel_rfl) (by kernel_rfl) (by kernel_rfl) (fun _ _ _ h => h) (by rfl) (fun W hW => by go_simp) hS ?_
                      try simp only [Act.put]
                      refine anyS_pure 12 (strV r1) rfl (by kernel_rfl) (by kernel_rfl) (by kernel_rfl) (fun _ _ _ h => h) (by rfl) (fun W hW => by go_simp) hS ?_
                      try simp only [Act.put, List.setIfInBounds_toArray]
                      refine anyS_one 13 (by kernel_rfl) rfl ?_
                      go_wp2_with fail
                      show _ ∧ _
                      refine ⟨hS, ?_⟩
                      try simp only [Act.put, List.setIfInBounds_toArray]
                      refine anyS_end (by kernel_rfl) ?_
                      obtain ⟨y0, y1, y2⟩ := PT.out _ hS
                      have INy := INx.out _ (nextB D10.out hS)
                      cases hp0 : (e0 != 0)
                      all_goals
                        cases hp1 : (e1 != 0)
                      all_goals
                        rw [hp0, hp1] at INy
                        go_wp2_with fail
                        refine INy.mono ?_
                        rintro eq w9 ⟨rfl, hb9⟩
                        dsimp only
                        have B9 := nextB (nextB BW0.out hS) hb9
                        clear hb9
                        go_wp2_with (go_at_call 6; refine (C.out _ B9).mono ?_; rintro eq w10 ⟨rfl, hb10⟩)
                        go_ret
                        exact Ret.mk rfl (nextB B9 hb10)
        · have d1 : (e != 0) = true := by rw [bne_iff_ne]; exact h0
          clear h hl hT hnil
          go_enter Tryz.func4, Tryz.ntmps4
          go_wp2_with (first
            | (go_at_call 10; refine LI.out.mono ?_; rintro e w1 ⟨rfl, hb1⟩)
            | (go_at_call 6; refine (C.out _ hb1).mono ?_; rintro e w4 ⟨rfl, hb4⟩))
          go_ret
          exact Ret.mk rfl (nextB hb1 hb4)
end Go.Proofs.YtfdaljekehkkaaaGreatDoor
