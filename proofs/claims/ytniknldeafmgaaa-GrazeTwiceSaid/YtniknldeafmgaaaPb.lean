/- Layer 8, the law of a plot turned twice. -/
import Derived.Test.YtniknldeafmgaaaNc
import Derived.Test.YtniknldeafmgaaaHg
import Derived.Test.YtniknldeafmgaaaVs
namespace Go.Proofs.Ytniknldeafmgaaa
set_option linter.unusedSimpArgs false
set_option linter.unusedVariables false
open Go Go.RowKit

set_option maxRecDepth 100000 in
set_option maxHeartbeats 4000000 in
theorem twice_good (a b : Nat) (g : Nat → Nat) (ad : Option Addr) (c : Nat) (f s : Nat) (w : World) (hs : IsS a b g) (hI : Ints w ad (stL a g)) (hf : f ≤ 65535) (hs2 : s ≤ 65535) :
    Calls Try.prog 14 #[.int .i64 (a : Int), .int .i64 (b : Int), .slice ad a c, .int .u16 (f : Int), .int .u16 (s : Int)] w (Ret (.bool true) w) := by
  have ha1 := hs.p.a1
  have ha6 := hs.p.a6
  have hb1 := hs.p.b1
  have hb6 := hs.p.b6
  have hG := good_yes a b g ad c w hs hI
  have hd20 : decide ((20 : Int) < (a : Int)) = false := decide_eq_false (by omega)
  obtain ⟨i, hi⟩ : ∃ i, Hid (f % a = i) := ⟨_, Lib.hid rfl⟩
  obtain ⟨j, hj⟩ : ∃ j, Hid (f / 8 % b = j) := ⟨_, Lib.hid rfl⟩
  obtain ⟨i', hi'⟩ : ∃ i, Hid (s % a = i) := ⟨_, Lib.hid rfl⟩
  obtain ⟨j', hj'⟩ : ∃ j, Hid (s / 8 % b = j) := ⟨_, Lib.hid rfl⟩
  have ei : Hid ((f : Int) % (a : Int) = (i : Int)) := Lib.hid (by rw [← hi.out]; omega)
  have ej : Hid ((f : Int) / 8 % (b : Int) = (j : Int)) := Lib.hid (by rw [show (f : Int) / 8 = ((f / 8 : Nat) : Int) by omega, ← hj.out, Int.natCast_emod])
  have ei' : Hid ((s : Int) % (a : Int) = (i' : Int)) := Lib.hid (by rw [← hi'.out]; omega)
  have ej' : Hid ((s : Int) / 8 % (b : Int) = (j' : Int)) := Lib.hid (by rw [show (s : Int) / 8 = ((s / 8 : Nat) : Int) by omega, ← hj'.out, Int.natCast_emod])
  have hia : i < a := by rw [← hi.out]; exact Nat.mod_lt _ (by omega)
  have hjb : j < b := by rw [← hj.out]; exact Nat.mod_lt _ (by omega)
  have hia' : i' < a := by rw [← hi'.out]; exact Nat.mod_lt _ (by omega)
  have hjb' : j' < b := by rw [← hj'.out]; exact Nat.mod_lt _ (by omega)
  replace hI := Lib.hid hI
  go_enter Try.func14, Try.ntmps14
  go_upto_region 3 with (go_at_call 40; refine hG.mono ?_; rintro _ w1 ⟨rfl, hw1⟩; replace hI := Lib.hid (hI.out.next hw1); have B := Lib.hid hw1; clear hw1 hG)
  refine wp_region_S (fun W => Below w1.heap.size w1 W) (by kernel_rfl) ?_
  show wpAnyS _ _ _ _ _ (11 + 1) _ _ _
  have hd := (Below.refl w1.heap.size w1).drew
  have hdI := (Below.refl w1.heap.size w1).drew
  generalize w1.drew = w2 at *
  refine anyS_pure 0 (.int .u16 (f : Int)) rfl (by kernel_rfl) (by kernel_rfl) (by kernel_rfl) (fun _ _ _ h => h) (by rfl) (fun W hW => by go_simp) hd ?_
  try dsimp only [Act.put]
  try simp only [List.setIfInBounds_toArray, List.set_cons_zero, List.set_cons_succ]
  refine anyS_pure 1 (.int .i64 (f : Int)) rfl (by kernel_rfl) (by kernel_rfl) (by kernel_rfl) (fun _ _ _ h => h) (by rfl) (fun W hW => by go_simp; rw [IntKind.wrap_i64]; omega) hd ?_
  try dsimp only [Act.put]
  try simp only [List.setIfInBounds_toArray, List.set_cons_zero, List.set_cons_succ]
  refine anyS_pure 2 (.int .i64 (a : Int)) rfl (by kernel_rfl) (by kernel_rfl) (by kernel_rfl) (fun _ _ _ h => h) (by rfl) (fun W hW => by go_simp) hd ?_
  try dsimp only [Act.put]
  try simp only [List.setIfInBounds_toArray, List.set_cons_zero, List.set_cons_succ]
  refine anyS_pure 3 (.int .i64 (i : Int)) rfl (by kernel_rfl) (by kernel_rfl) (by kernel_rfl) (fun _ _ _ h => h) (by rfl) (fun W hW => by go_simp; rw [if_neg (by omega), Int.tmod_eq_emod_of_nonneg (by omega), ei.out]) hd ?_
  try dsimp only [Act.put]
  try simp only [List.setIfInBounds_toArray, List.set_cons_zero, List.set_cons_succ]
  refine anyS_pure 4 (.int .u16 (f : Int)) rfl (by kernel_rfl) (by kernel_rfl) (by kernel_rfl) (fun _ _ _ h => h) (by rfl) (fun W hW => by go_simp) hd ?_
  try dsimp only [Act.put]
  try simp only [List.setIfInBounds_toArray, List.set_cons_zero, List.set_cons_succ]
  refine anyS_pure 5 (.int .i64 (f : Int)) rfl (by kernel_rfl) (by kernel_rfl) (by kernel_rfl) (fun _ _ _ h => h) (by rfl) (fun W hW => by go_simp; rw [IntKind.wrap_i64]; omega) hd ?_
  try dsimp only [Act.put]
  try simp only [List.setIfInBounds_toArray, List.set_cons_zero, List.set_cons_succ]
  refine anyS_pure 6 (.int .i64 ((f / 8 : Nat) : Int)) rfl (by kernel_rfl) (by kernel_rfl) (by kernel_rfl) (fun _ _ _ h => h) (by rfl) (fun W hW => by go_simp; rw [IntKind.wrap_i64]; omega) hd ?_
  try dsimp only [Act.put]
  try simp only [List.setIfInBounds_toArray, List.set_cons_zero, List.set_cons_succ]
  refine anyS_pure 7 (.int .i64 (b : Int)) rfl (by kernel_rfl) (by kernel_rfl) (by kernel_rfl) (fun _ _ _ h => h) (by rfl) (fun W hW => by go_simp) hd ?_
  try dsimp only [Act.put]
  try simp only [List.setIfInBounds_toArray, List.set_cons_zero, List.set_cons_succ]
  refine anyS_pure 8 (.int .i64 (j : Int)) rfl (by kernel_rfl) (by kernel_rfl) (by kernel_rfl) (fun _ _ _ h => h) (by rfl) (fun W hW => by go_simp; rw [if_neg (by omega), Int.tmod_eq_emod_of_nonneg (by omega), ej.out]) hd ?_
  try dsimp only [Act.put]
  try simp only [List.setIfInBounds_toArray, List.set_cons_zero, List.set_cons_succ]
  refine anyS_pure 9 (.agg (qC (i : Int) (j : Int))) rfl (by kernel_rfl) (by kernel_rfl) (by kernel_rfl) (fun _ _ _ h => h) (by rfl) (fun W hW => by go_simp) hd ?_
  try dsimp only [Act.put]
  try simp only [List.setIfInBounds_toArray, List.set_cons_zero, List.set_cons_succ]
  refine anyS_one 10 (by kernel_rfl) rfl ?_
  go_wp2
  show _ ∧ _
  refine ⟨hd.alloc (Nat.le_trans (Nat.le_refl _) hd.size) _, ?_⟩
  try dsimp only [Act.put]
  try simp only [List.setIfInBounds_toArray, List.set_cons_zero, List.set_cons_succ]
  refine anyS_one 11 (by kernel_rfl) rfl ?_
  go_wp2
  show _ ∧ _
  refine ⟨hd.alloc hd.size _, anyS_end (by kernel_rfl) ?_⟩
  try dsimp only
  have kP := Lib.hid (Blk.new w2 31 (qC (i : Int) (j : Int)))
  have hs2' := hd.alloc hd.size (.cells (qC (i : Int) (j : Int)) 31)
  replace hI := Lib.hid (hI.out.next hs2')
  replace B := Lib.hid (nextB B.out hs2')
  clear hs2' hd hdI
  generalize w2.alloc (.cells (qC (i : Int) (j : Int)) 31) = w3 at *
  generalize w2.heap.size = D1 at *
  go_upto_region 4 with (fail)
  refine wp_region_S (fun W => Below w3.heap.size w3 W) (by kernel_rfl) ?_
  show wpAnyS _ _ _ _ _ (11 + 1) _ _ _
  have hd := (Below.refl w3.heap.size w3).drew
  have hdI := (Below.refl w3.heap.size w3).drew
  generalize w3.drew = w2 at *
  refine anyS_pure 0 (.int .u16 (s : Int)) rfl (by kernel_rfl) (by kernel_rfl) (by kernel_rfl) (fun _ _ _ h => h) (by rfl) (fun W hW => by go_simp) hd ?_
  try dsimp only [Act.put]
  try simp only [List.setIfInBounds_toArray, List.set_cons_zero, List.set_cons_succ]
  refine anyS_pure 1 (.int .i64 (s : Int)) rfl (by kernel_rfl) (by kernel_rfl) (by kernel_rfl) (fun _ _ _ h => h) (by rfl) (fun W hW => by go_simp; rw [IntKind.wrap_i64]; omega) hd ?_
  try dsimp only [Act.put]
  try simp only [List.setIfInBounds_toArray, List.set_cons_zero, List.set_cons_succ]
  refine anyS_pure 2 (.int .i64 (a : Int)) rfl (by kernel_rfl) (by kernel_rfl) (by kernel_rfl) (fun _ _ _ h => h) (by rfl) (fun W hW => by go_simp) hd ?_
  try dsimp only [Act.put]
  try simp only [List.setIfInBounds_toArray, List.set_cons_zero, List.set_cons_succ]
  refine anyS_pure 3 (.int .i64 (i' : Int)) rfl (by kernel_rfl) (by kernel_rfl) (by kernel_rfl) (fun _ _ _ h => h) (by rfl) (fun W hW => by go_simp; rw [if_neg (by omega), Int.tmod_eq_emod_of_nonneg (by omega), ei'.out]) hd ?_
  try dsimp only [Act.put]
  try simp only [List.setIfInBounds_toArray, List.set_cons_zero, List.set_cons_succ]
  refine anyS_pure 4 (.int .u16 (s : Int)) rfl (by kernel_rfl) (by kernel_rfl) (by kernel_rfl) (fun _ _ _ h => h) (by rfl) (fun W hW => by go_simp) hd ?_
  try dsimp only [Act.put]
  try simp only [List.setIfInBounds_toArray, List.set_cons_zero, List.set_cons_succ]
  refine anyS_pure 5 (.int .i64 (s : Int)) rfl (by kernel_rfl) (by kernel_rfl) (by kernel_rfl) (fun _ _ _ h => h) (by rfl) (fun W hW => by go_simp; rw [IntKind.wrap_i64]; omega) hd ?_
  try dsimp only [Act.put]
  try simp only [List.setIfInBounds_toArray, List.set_cons_zero, List.set_cons_succ]
  refine anyS_pure 6 (.int .i64 ((s / 8 : Nat) : Int)) rfl (by kernel_rfl) (by kernel_rfl) (by kernel_rfl) (fun _ _ _ h => h) (by rfl) (fun W hW => by go_simp; rw [IntKind.wrap_i64]; omega) hd ?_
  try dsimp only [Act.put]
  try simp only [List.setIfInBounds_toArray, List.set_cons_zero, List.set_cons_succ]
  refine anyS_pure 7 (.int .i64 (b : Int)) rfl (by kernel_rfl) (by kernel_rfl) (by kernel_rfl) (fun _ _ _ h => h) (by rfl) (fun W hW => by go_simp) hd ?_
  try dsimp only [Act.put]
  try simp only [List.setIfInBounds_toArray, List.set_cons_zero, List.set_cons_succ]
  refine anyS_pure 8 (.int .i64 (j' : Int)) rfl (by kernel_rfl) (by kernel_rfl) (by kernel_rfl) (fun _ _ _ h => h) (by rfl) (fun W hW => by go_simp; rw [if_neg (by omega), Int.tmod_eq_emod_of_nonneg (by omega), ej'.out]) hd ?_
  try dsimp only [Act.put]
  try simp only [List.setIfInBounds_toArray, List.set_cons_zero, List.set_cons_succ]
  refine anyS_pure 9 (.agg (qC (i' : Int) (j' : Int))) rfl (by kernel_rfl) (by kernel_rfl) (by kernel_rfl) (fun _ _ _ h => h) (by rfl) (fun W hW => by go_simp) hd ?_
  try dsimp only [Act.put]
  try simp only [List.setIfInBounds_toArray, List.set_cons_zero, List.set_cons_succ]
  refine anyS_one 10 (by kernel_rfl) rfl ?_
  go_wp2
  show _ ∧ _
  refine ⟨hd.alloc (Nat.le_trans (Nat.le_refl _) hd.size) _, ?_⟩
  try dsimp only [Act.put]
  try simp only [List.setIfInBounds_toArray, List.set_cons_zero, List.set_cons_succ]
  refine anyS_one 11 (by kernel_rfl) rfl ?_
  go_wp2
  show _ ∧ _
  refine ⟨hd.alloc hd.size _, anyS_end (by kernel_rfl) ?_⟩
  try dsimp only
  have kQ := Lib.hid (Blk.new w2 31 (qC (i' : Int) (j' : Int)))
  have hs2' := hd.alloc hd.size (.cells (qC (i' : Int) (j' : Int)) 31)
  replace hI := Lib.hid (hI.out.next hs2')
  replace B := Lib.hid (nextB B.out hs2')
  replace kP := Lib.hid (kP.out.ext hs2')
  clear hs2' hd hdI
  generalize w2.alloc (.cells (qC (i' : Int) (j' : Int)) 31) = w4 at *
  generalize w2.heap.size = D2 at *
  have hT := Lib.hid (fun (x y x' y' : Nat) (h1 : x < a) (h2 : y < b) (h3 : x' < a) (h4 : y' < b) ad c w (h : Ints w ad (stL a g)) => (Turns_yes a b g [((x : Int), (y : Int)), ((x' : Int), (y' : Int))] ad _ c 2 2 _ hs (h.next (b1 w (.cells #[.int .i64 (x : Int), .int .i64 (y : Int), .int .i64 (x' : Int), .int .i64 (y' : Int)] 31))) (prs_two w x y x' y' _) rfl (by omega) (fun i hi => by
    rcases (show i = 0 ∨ i = 1 by omega) with rfl | rfl
    · show HasP a b (x : Int) (y : Int)
      unfold HasP; omega
    · show HasP a b (x' : Int) (y' : Int)
      unfold HasP; omega)).mono fun _ _ k => k.gotS)
  have hO := Lib.hid (fun ad c w (h : Ints w ad (stL a g)) => (Turn_yes a b g (i : Int) (j : Int) ad c w hs h (by unfold HasP; omega)).mono fun _ _ k => k.gotS)
  have ePP : Hid (tnsF a b g [((i : Int), (j : Int)), ((i : Int), (j : Int))] = g) := Lib.hid (turn_twice hs j hia)
  have hTS := Lib.hid (tnf_S hs (j := j) hia)
  have hcm : Hid (((i : Int) - i') * ((i : Int) - i') + ((j : Int) - j') * ((j : Int) - j') ≠ 1 → tnsF a b g [((i : Int), (j : Int)), ((i' : Int), (j' : Int))] = tnsF a b g [((i' : Int), (j' : Int)), ((i : Int), (j : Int))]) := Lib.hid (fun h => turn_comm hia hia' (not_near h).1 (not_near h).2)
  have q1 := mul_bd (x := (i : Int) - i') (y := (i : Int) - i') (X := 6) (Y := 6) (by omega) (by omega) (by omega) (by omega)
  have q2 := mul_bd (x := (j : Int) - j') (y := (j : Int) - j') (X := 6) (Y := 6) (by omega) (by omega) (by omega) (by omega)
  obtain ⟨q11, q12⟩ := q1
  obtain ⟨q21, q22⟩ := q2
  obtain ⟨P0, P1⟩ := kP.out.qc
  obtain ⟨Q0, Q1⟩ := kQ.out.qc
  go_upto_region 9 with (first
    | (go_at_call 25; (with_reducible refine (hT.out i j i j hia hjb hia hjb _ _ _ hI.out).mono ?_); rintro _ w5 ⟨a5, c5, rfl, hI5, hw5⟩; have hx5 := nextB (b1 _ _) hw5; replace hI := Lib.hid (hI.out.next hx5); replace kP := Lib.hid (kP.out.ext hx5); replace kQ := Lib.hid (kQ.out.ext hx5); replace hI5 := Lib.hid hI5; replace B := Lib.hid (nextB B.out hx5); clear P0 P1 Q0 Q1 hx5 hw5; obtain ⟨P0, P1⟩ := kP.out.qc; obtain ⟨Q0, Q1⟩ := kQ.out.qc)
    | (go_at_call 25; (with_reducible refine (hT.out i j i' j' hia hjb hia' hjb' _ _ _ hI.out).mono ?_); rintro _ w6 ⟨a6, c6, rfl, hI6, hw6⟩; have hx6 := nextB (b1 _ _) hw6; replace hI := Lib.hid (hI.out.next hx6); replace hI5 := Lib.hid (hI5.out.next hx6); replace kP := Lib.hid (kP.out.ext hx6); replace kQ := Lib.hid (kQ.out.ext hx6); replace hI6 := Lib.hid hI6; replace B := Lib.hid (nextB B.out hx6); clear P0 P1 Q0 Q1 hx6 hw6; obtain ⟨P0, P1⟩ := kP.out.qc; obtain ⟨Q0, Q1⟩ := kQ.out.qc)
    | (go_at_call 25; (with_reducible refine (hT.out i' j' i j hia' hjb' hia hjb _ _ _ hI.out).mono ?_); rintro _ w7 ⟨a7, c7, rfl, hI7, hw7⟩; have hx7 := nextB (b1 _ _) hw7; replace hI := Lib.hid (hI.out.next hx7); replace hI5 := Lib.hid (hI5.out.next hx7); replace hI6 := Lib.hid (hI6.out.next hx7); replace kP := Lib.hid (kP.out.ext hx7); replace kQ := Lib.hid (kQ.out.ext hx7); replace hI7 := Lib.hid hI7; replace B := Lib.hid (nextB B.out hx7); clear P0 P1 Q0 Q1 hx7 hw7; obtain ⟨P0, P1⟩ := kP.out.qc; obtain ⟨Q0, Q1⟩ := kQ.out.qc)
    | (go_at_call 23; (with_reducible refine (hO.out _ _ _ hI.out).mono ?_); rintro _ w8 ⟨a8, c8, rfl, hI8, hx8⟩; replace hI := Lib.hid (hI.out.next hx8); replace hI5 := Lib.hid (hI5.out.next hx8); replace hI6 := Lib.hid (hI6.out.next hx8); replace hI7 := Lib.hid (hI7.out.next hx8); replace kP := Lib.hid (kP.out.ext hx8); replace kQ := Lib.hid (kQ.out.ext hx8); replace hI8 := Lib.hid hI8; replace B := Lib.hid (nextB B.out hx8); clear P0 P1 Q0 Q1 hx8; obtain ⟨P0, P1⟩ := kP.out.qc; obtain ⟨Q0, Q1⟩ := kQ.out.qc))
  have hI8' : Hid (Ints w8 a8 (stL a (tnf a b g i j))) := Lib.hid hI8.out
  replace hI8 := hI8'
  clear hI8'
  go_upto_region 11 with (first
    | (go_at_call 18; (with_reducible refine (same_eq a5 ad a c5 c _ g _ ha6 hI5.out hI.out ePP.out).mono ?_); rintro _ w9 ⟨rfl, hw9⟩; replace hI6 := Lib.hid (hI6.out.next hw9); replace hI7 := Lib.hid (hI7.out.next hw9); replace hI8 := Lib.hid (hI8.out.next hw9); replace kP := Lib.hid (kP.out.ext hw9); replace kQ := Lib.hid (kQ.out.ext hw9); replace B := Lib.hid (nextB B.out hw9); clear P0 P1 Q0 Q1 hw9 hI5 hI)
    | (go_at_call 41; (with_reducible refine (IsState_yes a b _ a8 c8 _ hTS.out hI8.out).mono ?_); rintro _ w10 ⟨rfl, hw10⟩; replace hI6 := Lib.hid (hI6.out.next hw10); replace hI7 := Lib.hid (hI7.out.next hw10); replace kP := Lib.hid (kP.out.ext hw10); replace kQ := Lib.hid (kQ.out.ext hw10); replace B := Lib.hid (nextB B.out hw10); clear hw10 hI8))
  obtain ⟨P0, P1⟩ := kP.out.qc
  obtain ⟨Q0, Q1⟩ := kQ.out.qc
  replace P0 := cellX P0
  replace P1 := cellX P1
  replace Q0 := cellX Q0
  replace Q1 := cellX Q1
  refine wp_region_ext (by kernel_rfl) (by kernel_rfl) ?_
  repeat (go_big_quiet_step (fail))
  refine wpQuiet_nil ?_
  rintro ⟨w11, hw11⟩
  dsimp only
  replace hI6 := Lib.hid (hI6.out.next hw11)
  replace hI7 := Lib.hid (hI7.out.next hw11)
  replace B := Lib.hid (nextB B.out hw11)
  clear P0 P1 Q0 Q1 hw11 kP kQ hT hO
  by_cases hadj : ((i : Int) - i') * ((i : Int) - i') + ((j : Int) - j') * ((j : Int) - j') = 1
  · have hd1 : (((i : Int) - i') * ((i : Int) - i') + ((j : Int) - j') * ((j : Int) - j') == 1) = true := by rw [beq_iff_eq]; exact hadj
    replace hadj := Lib.hid hadj
    go_wp2_with (go_at_call 15; refine (alive_any _).mono ?_; rintro _ w13 ⟨rfl, hw13⟩)
    go_ret
    exact Ret.mk rfl (nextB B.out hw13)
  · have hd1 : (((i : Int) - i') * ((i : Int) - i') + ((j : Int) - j') * ((j : Int) - j') == 1) = false := by rw [beq_eq_false_iff_ne]; exact hadj
    have hS := Lib.hid (same_eq a6 a7 a c6 c7 _ _ _ ha6 hI6.out hI7.out (hcm.out hadj))
    replace hadj := Lib.hid hadj
    go_wp2_with (first
      | (go_at_call 18; (with_reducible refine hS.out.mono ?_); rintro _ w12 ⟨rfl, hw12⟩; replace B := Lib.hid (nextB B.out hw12); clear hw12)
      | (go_at_call 15; refine (alive_any _).mono ?_; rintro _ w13 ⟨rfl, hw13⟩))
    go_ret
    exact Ret.mk rfl (nextB B.out hw13)
set_option maxRecDepth 100000 in
theorem twice_law (a b : Int) (ad : Option Addr) (n c : Nat) (xs : List Int) (f s : Nat) (w : World) (hI : Ints w ad xs) (hl : xs.length = n) (_hc : n ≤ c) (_hn : ad = none → c = 0) (hf : f ≤ 65535) (hs : s ≤ 65535) : Calls Try.prog 14 #[.int .i64 a, .int .i64 b, .slice ad n c, .int .u16 (f : Int), .int .u16 (s : Int)] w (Ret (.bool true) w) := by
  clear _hc _hn
  by_cases hlen : 20 < n
  · have hlen' : (20 : Int) < (n : Int) := by omega
    clear hI hl
    go_enter Try.func14, Try.ntmps14
    go_wp2_with (go_at_call 15; refine (alive_any _).mono ?_; rintro _ w1 ⟨rfl, hw1⟩)
    go_ret
    exact Ret.mk rfl hw1
  · by_cases hS : StP a b xs
    · obtain ⟨A, B, rfl, rfl, hS2, hx⟩ := hS.parts
      clear hS
      generalize gX xs = g at *
      subst hx
      rw [stL_len] at hl
      subst hl
      exact twice_good A B g ad c f s w hS2 hI hf hs
    · have hlen' : (n : Int) ≤ 20 := by omega
      have hG := good_no a b xs ad n c w hI hl (by omega) hS
      clear hI hl hS
      go_enter Try.func14, Try.ntmps14
      go_wp2_with (first | (go_at_call 40; refine hG.mono ?_; rintro _ w2 ⟨rfl, hw2⟩) | (go_at_call 15; refine (alive_any _).mono ?_; rintro _ w1 ⟨rfl, hw1⟩))
      go_ret
      exact Ret.mk rfl (nextB hw2 hw1)
end Go.Proofs.Ytniknldeafmgaaa
