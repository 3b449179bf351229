/- Layer 4, by the specification: what is known of positions; has, turn, a new game. -/
import Derived.Test.YtbdhceolchhnjaaDoorRa
import Derived.Test.YtbdhceolchhnjaaDoorBa
import Derived.Test.YtbdhceolchhnjaaDoorQc
namespace Go.Proofs.YtbdhceolchhnjaaDoor
open Go Go.RowKit

/-- The place of a position and a side. -/
def kI (m x y s : Nat) : Nat := (x * pw m + y) * 2 + s
def kN (m : Nat) : Nat := 2 * (pw m * pw m)
theorem kI_lt {m x y s : Nat} (hx : x < pw m) (hy : y < pw m) (hs : s < 2) : kI m x y s < kN m := by
  unfold kI kN
  have h1 : (x + 1) * pw m ≤ pw m * pw m := Nat.mul_le_mul_right _ hx
  rw [Nat.add_mul, Nat.one_mul] at h1
  omega
theorem kI_inj {m x y s x' y' s' : Nat} (hy : y < pw m) (hs : s < 2) (hy' : y' < pw m) (hs' : s' < 2) (h : kI m x y s = kI m x' y' s') : x = x' ∧ y = y' ∧ s = s' := by
  unfold kI at h
  have h1 : x * pw m + y = x' * pw m + y' := by omega
  have h2 : s = s' := by omega
  have h3 : x = x' := by
    have e1 : (x * pw m + y) / pw m = x := by rw [Nat.add_comm, Nat.add_mul_div_right _ _ (pw_pos m), Nat.div_eq_of_lt hy]; omega
    have e2 : (x' * pw m + y') / pw m = x' := by rw [Nat.add_comm, Nat.add_mul_div_right _ _ (pw_pos m), Nat.div_eq_of_lt hy']; omega
    rw [← e1, ← e2, h1]
  subst h3
  exact ⟨rfl, by omega, h2⟩
/-- The list of what is known. -/
def cN (m : Nat) (f : Nat → Int) : Array Value := (Array.range (kN m)).map fun i => .int .i64 (f i)
theorem cN_size (m : Nat) (f : Nat → Int) : (cN m f).size = kN m := by simp [cN]
theorem cN_get {m i : Nat} (f : Nat → Int) (h : i < kN m) : (cN m f)[i]? = some (.int .i64 (f i)) := by simp [cN, h]
theorem cN_set (m : Nat) (f : Nat → Int) (k : Nat) (v : Int) : (cN m f).setIfInBounds k (.int .i64 v) = cN m (fun i => if i = k then v else f i) := by
  apply Array.ext
  · simp [cN]
  · intro i h1 h2
    simp only [Array.size_setIfInBounds, cN_size] at h1
    rw [Array.getElem_setIfInBounds (by rw [cN_size]; exact h1)]
    by_cases e : k = i
    · subst e; simp [cN]
    · rw [if_neg e]
      have : ¬ i = k := fun h => e h.symm
      simp [cN, this]
def wV (b : Bool) : Int := if b then 1 else -1
/-- What is known is right. -/
def KnF (m : Nat) (R : List Int) (f : Nat → Int) : Prop := ∀ x y s, PosP m x y → s < 2 → f (kI m x y s) = 0 ∨ f (kI m x y s) = wV (win m R x y (s == 1))
theorem KnF.put {m : Nat} {R : List Int} {f : Nat → Int} (h : KnF m R f) {x y s : Nat} (hp : PosP m x y) (hs : s < 2) {b : Bool} (hb : win m R x y (s == 1) = b) : KnF m R (fun i => if i = kI m x y s then wV b else f i) := by
  intro x' y' s' hp' hs'
  by_cases e : kI m x' y' s' = kI m x y s
  · obtain ⟨rfl, rfl, rfl⟩ := kI_inj hp'.hd hs' hp.hd hs e
    right
    simp only [if_true]
    rw [hb]
  · simp only [if_neg e]
    exact h x' y' s' hp' hs'
/-- The block of what is known. -/
def KnR (m : Nat) (R : List Int) (K : Nat) (w : World) : Prop := ∃ f, Blk w K 3 (cN m f) ∧ KnF m R f
theorem KnR.lt {m : Nat} {R : List Int} {K : Nat} {w : World} (h : KnR m R K w) : K < w.heap.size := by
  obtain ⟨f, h1, _⟩ := h
  exact h1.lt
theorem KnR.next {m : Nat} {R : List Int} {K : Nat} {w w' : World} (h : KnR m R K w) (hb : Below w.heap.size w w') : KnR m R K w' := by
  obtain ⟨f, h1, h2⟩ := h
  exact ⟨f, h1.ext hb, h2⟩
theorem pw_two {m : Nat} : pw m * pw m = pw (2 * m) := by unfold pw; rw [← Nat.pow_add]; congr 1; omega
theorem kN_le {m : Nat} (h : m ≤ 9) : kN m ≤ 524288 := by
  unfold kN
  rw [pw_two]
  have := pw_mono (show 2 * m ≤ 18 by omega)
  have h4 : pw 18 = 262144 := rfl
  omega
theorem madeN (m : Nat) : madeCells (Value.int .i64 0).cells (kN m * 1) = cN m (fun _ => 0) := by
  apply Array.ext'
  show ((Array.range (kN m * 1)).map fun i => #[Value.int .i64 0][i % 1]!).toList = _
  rw [Nat.mul_one]
  unfold cN
  congr 2
  funext i
  rw [Nat.mod_one]
  rfl
section
variable (m : Nat) (a : Option Addr) (n c : Nat) (R : List Int)
set_option maxRecDepth 100000 in
set_option maxHeartbeats 2000000 in
theorem refHas_any (x : Nat) (w : World) (h : Ints w a R) (hn : R.length = n) (hm : n ≤ 1000) (hx : x < 65536) (hR : Sets R) :
    Calls Tryd.prog 50 #[.slice a n c, .int .i64 (x : Nat)] w (Only (.bool (hasOne R x)) w) := by
  obtain ⟨r, hr⟩ : ∃ r, Hid (hasOne R x = r) := ⟨_, Lib.hid rfl⟩
  rw [hr.out]
  have hn' := Lib.hid hn
  have hno : Hid ((∀ j, j < n → inB (nth R j).toNat x = false) → r = false) := Lib.hid (fun hh => by
    rw [← hr.out]
    unfold hasOne
    rw [List.any_eq_false]
    intro y hy
    obtain ⟨i, hi, e⟩ := mem_nth hy
    have := hh i (by omega)
    rw [e] at this
    rw [this]; simp)
  have hyes : Hid (∀ k, k < n → inB (nth R k).toNat x = true → r = true) := Lib.hid (fun k hk hin => by
    rw [← hr.out]
    exact List.any_eq_true.2 ⟨_, nth_mem (show k < R.length by omega), hin⟩)
  have hS := Lib.hid (fun k (hk : k < n) => hR _ (nth_mem (show k < R.length by omega)))
  clear hn
  go_enter Tryd.func50, Tryd.ntmps50
  go_wp2
  go_loopw [5] (fun i wr => ∃ k : Nat, k ≤ n ∧ i = .int .i64 k ∧ (∀ j, j < k → inB (nth R j).toNat x = false) ∧ wr = w) (fun i _ => n - (intOf i).toNat)
  case atStart => exact ⟨0, by omega, rfl, fun j hj => by omega, rfl⟩
  case round =>
    obtain ⟨k, hk, rfl, hb, rfl⟩ := hrel
    replace hb := Lib.hid hb
    by_cases hlt : k < n
    · have hki : (k : Int) < (n : Int) := by omega
      obtain ⟨b, off, rfl, hc⟩ := ints_at h (by rw [hn'.out]; omega)
      have x0 := hc k (by rw [hn'.out]; omega)
      have hz := hS.out k hlt
      obtain ⟨z, hzz⟩ : ∃ z : Nat, Hid ((nth R k).toNat = z) := ⟨_, Lib.hid rfl⟩
      have e : nth R k = (z : Int) := by have := hzz.out; omega
      rw [e] at x0
      have hz2 : z < 65536 := by have := hzz.out; omega
      have an := i64_andNot_nat z x (by omega) (by omega)
      clear hc e hz
      cases hin : inB z x
      · have hd : (((dif z x : Nat) : Int) == 0) = false := by
          rw [beq_eq_false_iff_ne]
          intro h0
          have : dif z x = 0 := by omega
          rw [dif_zero, hin] at this
          cases this
        generalize dif z x = dz at *
        go_wp2
        go_roundw
        case rel => exact ⟨k + 1, by omega, by go_num, fun j hj => (by
          by_cases hjk : j = k
          · subst hjk; rw [hzz.out]; exact hin
          · exact hb.out j (by omega)), by first | rfl | trivial⟩
        case measure => simp [intOf]; omega
      · have hd : (((dif z x : Nat) : Int) == 0) = true := by rw [dif_zero.2 hin]; rfl
        have hrt := Lib.hid (hyes.out k hlt (by rw [hzz.out]; exact hin))
        generalize dif z x = dz at *
        go_wp2
        go_ret
        exact Only.mk (by rw [hrt.out]; rfl)
    · obtain rfl : k = n := by omega
      have hrt := Lib.hid (hno.out hb.out)
      go_wp2
      go_ret
      exact Only.mk (by rw [hrt.out]; rfl)
/-- A new game of the specification. -/
def NewR (m : Nat) (a : Option Addr) (n c : Nat) (w : World) (e : Ending) (w' : World) : Prop := ∃ G K, e = .returned (.pointer (some ⟨G, 0, none⟩)) ∧ w.heap.size ≤ G ∧ w.heap.size ≤ K ∧ G ≠ K ∧ Blk w' G 106 #[.int .i64 (m : Nat), .slice a n c, .slice (some ⟨K, 0, none⟩) (kN m) (kN m)] ∧ Blk w' K 3 (cN m fun _ => 0) ∧ Below w.heap.size w w'
set_option maxRecDepth 100000 in
theorem refNew_any (hm : m ≤ 9) (w : World) : Calls Tryd.prog 45 #[.int .i64 (m : Nat), .slice a n c] w (NewR m a n c w) := by
  have hk := kN_le hm
  have e1 : wrap64 ((2 : Int) * 2 ^ (2 * m)) = ((kN m : Nat) : Int) := by
    have : (2 : Int) * 2 ^ (2 * m) = ((kN m : Nat) : Int) := by unfold kN; rw [pw_two]; unfold pw; simp
    rw [this]; exact IntWalk.wrap64_in _ ⟨by omega, by omega⟩
  have hmk : ∀ W : World, (Instr.makeSlice 22 (.int .i64 ((kN m : Nat) : Int)) (.int .i64 ((kN m : Nat) : Int))).run Tryd.prog W = .ok (.slice (some ⟨W.heap.size, 0, none⟩) (kN m) (kN m)) (W.alloc (.cells (cN m fun _ => 0) 3)) := fun W => by
    obtain ⟨i0, hi, hz0, hz1, hz2⟩ := info_parts infoInt'
    rw [run_make W 22 3 i0 (.int .i64 0) Tryd.underlying22 hi hz0 .i64 .i64 (kN m) (kN m) (by omega) (by omega) (by rw [hz2]; omega) (by omega), hz1, Int.toNat_natCast, madeN]
  have hmin : min (2 * m) 64 = 2 * m := by omega
  unfold NewR
  generalize kN m = N at *
  have hB := (Blk.new w 3 (cN m fun _ => 0)).alloc (.cells #[.int .i64 (m : Nat), .slice a n c, .slice (some ⟨w.heap.size, 0, none⟩) N N] 106)
  have hG : Blk ((w.alloc (.cells (cN m fun _ => 0) 3)).alloc (.cells #[.int .i64 (m : Nat), .slice a n c, .slice (some ⟨w.heap.size, 0, none⟩) N N] 106)) (w.heap.size + 1) 106 #[.int .i64 (m : Nat), .slice a n c, .slice (some ⟨w.heap.size, 0, none⟩) N N] := by
    have := Blk.new (w.alloc (.cells (cN m fun _ => 0) 3)) 106 #[.int .i64 (m : Nat), .slice a n c, .slice (some ⟨w.heap.size, 0, none⟩) N N]
    simpa using this
  have hb := b2 w (.cells (cN m fun _ => 0) 3) (.cells #[.int .i64 (m : Nat), .slice a n c, .slice (some ⟨w.heap.size, 0, none⟩) N N] 106)
  replace hB := Lib.hid hB
  replace hG := Lib.hid hG
  replace hb := Lib.hid hb
  go_enter Tryd.func45, Tryd.ntmps45
  go_wp2
  go_ret
  exact ⟨w.heap.size + 1, w.heap.size, rfl, by omega, by omega, by omega, hG.out, hB.out, hb.out⟩
end
/-- Who is next. -/
theorem refTurn_any (t : ByteArray) (w : World) : Calls Tryd.prog 44 #[.string t] w (Only (.tuple #[.int .i64 (sideN t : Nat), .int .i64 (if isSide t = true then 0 else 5 : Nat)]) w) := by
  have hw := strW_list
  have hd := strD_list
  cases c1 : ([119] : List UInt8) == t.toList
  · have c1' : (t.toList == ([119] : List UInt8)) = false := by rw [Bool.beq_comm]; exact c1
    cases c2 : ([100] : List UInt8) == t.toList
    · have c2' : (t.toList == ([100] : List UInt8)) = false := by rw [Bool.beq_comm]; exact c2
      have h1 : isSide t = false := by unfold isSide; rw [hw, hd, c1, c2]; rfl
      have h2 : sideN t = 0 := by unfold sideN; rw [hw, hd, c1, c2]; rfl
      rw [h1, h2]
      go_enter Tryd.func44, Tryd.ntmps44
      go_wp2
      go_ret2
      exact Only.mk rfl
    · have c2' : (t.toList == ([100] : List UInt8)) = true := by rw [Bool.beq_comm]; exact c2
      have h1 : isSide t = true := by unfold isSide; rw [hw, hd, c1, c2]; rfl
      have h2 : sideN t = 1 := by unfold sideN; rw [hw, hd, c1, c2]; rfl
      rw [h1, h2]
      go_enter Tryd.func44, Tryd.ntmps44
      go_wp2
      go_ret2
      exact Only.mk rfl
  · have c1' : (t.toList == ([119] : List UInt8)) = true := by rw [Bool.beq_comm]; exact c1
    have h1 : isSide t = true := by unfold isSide; rw [hw, c1]; rfl
    have h2 : sideN t = 0 := by unfold sideN; rw [hw, c1]; rfl
    rw [h1, h2]
    go_enter Tryd.func44, Tryd.ntmps44
    go_wp2
    go_ret2
    exact Only.mk rfl
end Go.Proofs.YtbdhceolchhnjaaDoor
