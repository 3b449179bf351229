/- Layer 8, by the program: Ends. -/
import Derived.Test.YtniknldeafmgaaaHk
import Derived.Test.YtniknldeafmgaaaVs
namespace Go.Proofs.Ytniknldeafmgaaa
set_option linter.unusedSimpArgs false
set_option linter.unusedVariables false
open Go Go.RowKit

theorem entersEnd (args : Array Value) (W : World) : (callFunc 64 args).run Try.prog W = .ok (.enter 64 args) W := by go_simp
theorem entersNext (args : Array Value) (W : World) : (callFunc 65 args).run Try.prog W = .ok (.enter 65 args) W := by go_simp
/-- The plot is an end; it is next. -/
def isE (a : Nat) (g : Nat → Nat) (i j : Nat) : Bool := decide (enf a g i j)
def isN (b : Nat) (g : Nat → Nat) (i j : Nat) : Bool := decide (nxt b g i j)
theorem endsOf (a b : Nat) (g : Nat → Nat) (w : World) (hp : IsP a b g) :
    Calls Try.prog 63 #[pV a b g, .func (.func 64) #[pV a b g] #[]] w (NewQ (plT (isE a g) b a) w) :=
  plots_any a b g 64 (isE a g) w hp entersEnd (fun i j hi hj W => by have := isEnd_any a b g i (j : Int) W hp hi (by omega); rwa [endP_iff] at this)
theorem nextOf (a b : Nat) (g : Nat → Nat) (w : World) (hp : IsP a b g) :
    Calls Try.prog 63 #[pV a b g, .func (.func 65) #[pV a b g] #[]] w (NewQ (plT (isN b g) b a) w) :=
  plots_any a b g 65 (isN b g) w hp entersNext (fun i j hi hj W => isNext_any a b g i j W hp (by have := hp.a6; omega))
theorem results_t3 {fn : Func} {r s t : Tmp} {X : World} {tmps : Array Value} {v1 v2 v3 : Value} (hr : fn.results = #[.tmp r, .tmp s, .tmp t]) (h1 : tmps.getD r undef = v1) (h2 : tmps.getD s undef = v2) (h3 : tmps.getD t undef = v3) :
    (results fn tmps).run Try.prog X = .ok (.tuple #[v1, v2, v3]) X := by
  rw [Array.getD_eq_getD_getElem?] at h1 h2 h3
  simp [results, hr, go_sem, h1, h2, h3]
/-- Ends and next plots were returned. -/
def EndsR (a b : Nat) (g : Nat → Nat) (w : World) (e : Ending) (w' : World) : Prop := ∃ v1 v2, e = .returned (.tuple #[v1, v2, .int .i64 0]) ∧ w'.ownsRow w.heap.size 31 2 v1 (plT (isE a g) b a).length (cQ (plT (isE a g) b a)) ∧ w'.ownsRow w.heap.size 31 2 v2 (plT (isN b g) b a).length (cQ (plT (isN b g) b a)) ∧ Below w.heap.size w w'
set_option maxRecDepth 100000 in
set_option maxHeartbeats 4000000 in
theorem Ends_yes (a b : Nat) (g : Nat → Nat) (ad : Option Addr) (c : Nat) (w : World) (hs : IsS a b g) (hI : Ints w ad (stL a g)) :
    Calls Try.prog 29 #[.int .i64 (a : Int), .int .i64 (b : Int), .slice ad a c] w (EndsR a b g w) := by
  have hP := pastureOf_yes a b g ad c w hs hI
  have hE := Lib.hid (fun w => endsOf a b g w hs.p)
  have hN := Lib.hid (fun w => nextOf a b g w hs.p)
  unfold EndsR
  generalize plT (isE a g) b a = LE at *
  generalize plT (isN b g) b a = LN at *
  clear hs hI
  go_enter Try.func29, Try.ntmps29
  go_upto_region 4 with (go_at_call 57; refine hP.mono ?_; rintro _ w1 ⟨rfl, hw1⟩)
  have k0 := Blk.new w1 66 (pC a b g)
  have B := hw1.trans ((b1 w1 (.cells (pC a b g) 66)).mono hw1.size)
  clear hw1 hP
  generalize w1.alloc (.cells (pC a b g) 66) = W1 at *
  generalize w1.heap.size = D at *
  refine wp_region_S (fun W => Blk W D 66 (pC a b g) ∧ Below w.heap.size w W) (by kernel_rfl) ?_
  show wpAnyS _ _ _ _ _ (10 + 1) _ _ _
  replace k0 : Blk W1.drew D 66 (pC a b g) := k0
  replace B : Below w.heap.size w W1.drew := B.drew
  generalize W1.drew = W2 at *
  refine anyS_pure 0 (pV a b g) rfl (by kernel_rfl) (by kernel_rfl) (by kernel_rfl) (fun _ _ _ h => h) (by rfl) (fun W hW => by obtain ⟨c0, c1, c2, c3, c4, c5, c6, c7⟩ := hW.1.pc; go_simp) ⟨k0, B⟩ ?_
  try dsimp only [Act.put]
  try simp only [List.setIfInBounds_toArray, List.set_cons_zero, List.set_cons_succ]
  refine anyS_pure 1 (pV a b g) rfl (by kernel_rfl) (by kernel_rfl) (by kernel_rfl) (fun _ _ _ h => h) (by rfl) (fun W hW => by obtain ⟨c0, c1, c2, c3, c4, c5, c6, c7⟩ := hW.1.pc; go_simp) ⟨k0, B⟩ ?_
  try dsimp only [Act.put]
  try simp only [List.setIfInBounds_toArray, List.set_cons_zero, List.set_cons_succ]
  refine anyS_pure 2 (.func (.func 64) #[pV a b g] #[]) rfl (by kernel_rfl) (by kernel_rfl) (by kernel_rfl) (fun _ _ _ h => h) (by rfl) (fun W hW => by obtain ⟨c0, c1, c2, c3, c4, c5, c6, c7⟩ := hW.1.pc; go_simp) ⟨k0, B⟩ ?_
  try dsimp only [Act.put]
  try simp only [List.setIfInBounds_toArray, List.set_cons_zero, List.set_cons_succ]
  refine anyS_pure 4 (pV a b g) rfl (by kernel_rfl) (by kernel_rfl) (by kernel_rfl) (fun _ _ _ h => h) (by rfl) (fun W hW => by obtain ⟨c0, c1, c2, c3, c4, c5, c6, c7⟩ := hW.1.pc; go_simp) ⟨k0, B⟩ ?_
  try dsimp only [Act.put]
  try simp only [List.setIfInBounds_toArray, List.set_cons_zero, List.set_cons_succ]
  refine anyS_pure 5 (pV a b g) rfl (by kernel_rfl) (by kernel_rfl) (by kernel_rfl) (fun _ _ _ h => h) (by rfl) (fun W hW => by obtain ⟨c0, c1, c2, c3, c4, c5, c6, c7⟩ := hW.1.pc; go_simp) ⟨k0, B⟩ ?_
  try dsimp only [Act.put]
  try simp only [List.setIfInBounds_toArray, List.set_cons_zero, List.set_cons_succ]
  refine anyS_pure 6 (.func (.func 65) #[pV a b g] #[]) rfl (by kernel_rfl) (by kernel_rfl) (by kernel_rfl) (fun _ _ _ h => h) (by rfl) (fun W hW => by obtain ⟨c0, c1, c2, c3, c4, c5, c6, c7⟩ := hW.1.pc; go_simp) ⟨k0, B⟩ ?_
  try dsimp only [Act.put]
  try simp only [List.setIfInBounds_toArray, List.set_cons_zero, List.set_cons_succ]
  refine anyS_one 3 (by kernel_rfl) rfl ?_
  go_wp2_with (go_at_call 63; refine (hE.out _).mono ?_; rintro _ w3 ⟨v1, rfl, hown, hw3⟩)
  show _ ∧ _
  have k3 := k0.ext hw3
  have B3 := nextB B hw3
  have hown := owns_base hown B.size
  refine ⟨⟨k3, B3⟩, ?_⟩
  refine anyS_one 7 (by kernel_rfl) rfl ?_
  go_wp2_with (go_at_call 63; refine (hN.out _).mono ?_; rintro _ w4 ⟨v2, rfl, hown2, hw4⟩)
  show _ ∧ _
  have k4 := k3.ext hw4
  have B4 := nextB B3 hw4
  have hown2 := owns_base hown2 B3.size
  have hown := owns_next hown hw4
  refine ⟨⟨k4, B4⟩, ?_⟩
  refine anyS_one 8 (by kernel_rfl) rfl ?_
  go_wp2
  show _ ∧ _
  refine ⟨⟨k4, B4⟩, ?_⟩
  refine anyS_one 9 (by kernel_rfl) rfl ?_
  go_wp2
  show _ ∧ _
  refine ⟨⟨k4, B4⟩, ?_⟩
  refine anyS_one 10 (by kernel_rfl) rfl ?_
  go_wp2
  show _ ∧ _
  refine ⟨⟨k4, B4⟩, ?_⟩
  refine anyS_end (by kernel_rfl) ?_
  try dsimp only
  go_wp2
  exact bodyPost_ret (results_t3 rfl rfl rfl rfl) rfl ⟨v1, v2, rfl, hown, hown2, B4⟩
theorem Ends_no (a b : Int) (xs : List Int) (ad : Option Addr) (n c : Nat) (w : World) (hI : Ints w ad xs) (hl : xs.length = n) (h : ¬ StP a b xs) :
    Calls Try.prog 29 #[.int .i64 a, .int .i64 b, .slice ad n c] w (Ret (.tuple #[.slice none 0 0, .slice none 0 0, .int .i64 2]) w) := by
  have hP := pastureOf_no a b xs ad n c w hI hl h
  clear h hI hl
  go_enter Try.func29, Try.ntmps29
  go_wp2_with (go_at_call 57; refine hP.mono ?_; rintro _ w1 ⟨rfl, hw1⟩)
  exact bodyPost_ret (results_t3 rfl rfl rfl rfl) rfl (Ret.mk rfl (hw1.trans ((b1 w1 _).mono hw1.size)))
end Go.Proofs.Ytniknldeafmgaaa
