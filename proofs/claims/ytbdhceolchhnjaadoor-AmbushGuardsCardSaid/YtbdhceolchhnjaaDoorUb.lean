/- Layer 4, by the program: IsPairing, Answer; by the specification: an empty position. -/
import Derived.Test.YtbdhceolchhnjaaDoorUa
import Derived.Test.YtbdhceolchhnjaaDoorQb
import Derived.Test.YtbdhceolchhnjaaDoorSc
namespace Go.Proofs.YtbdhceolchhnjaaDoor
open Go Go.RowKit

set_option maxRecDepth 100000 in
set_option maxHeartbeats 1000000 in
theorem IsPairing_any (m : Nat) (a : Option Addr) (n c : Nat) (R : List Int) (pa : Option Addr) (l pc : Nat) (ps : List (Int × Int)) (w : World) (h : Ints w a R) (hn : R.length = n) (hF : FieldP m R) (hp : Prs w pa ps) (hk : ps.length = l) (hk9 : l ≤ 1000) :
    Calls Tryd.prog 20 #[.int .i64 (m : Nat), .slice a n c, .slice pa l pc] w (Ret (.tuple #[.bool (isP m R ps), .int .i64 0]) w) := by
  have F := Lib.hid (fun W hW => nf_any (m : Int) a n c R W hW hn)
  rw [fE_field hF] at F
  simp only [if_true, Int.toNat_natCast] at F
  have P := Lib.hid (fun W hW hPW => isPA_any m a n c R pa l pc ps W hW hn hF hPW hk hk9)
  have hI := Lib.hid h
  have hPs := Lib.hid hp
  generalize isP m R ps = r at *
  replace hF := Lib.hid hF
  clear h hp hn hk
  go_enter Tryd.func20, Tryd.ntmps20
  go_wp2_with (first
    | (go_at_call 51; refine (F.out _ hI.out).mono ?_; rintro e w1 ⟨rfl, hb1⟩; have bw := Lib.hid (nextB hb1 (b1 w1 (.cells #[.int .i64 (m : Nat), .slice a n c] 60))))
    | (go_at_call 54; refine (P.out _ (hI.out.next bw.out) (hPs.out.next bw.out)).mono ?_; rintro e w2 ⟨rfl, hb2⟩))
  go_ret2
  exact Ret.mk rfl (nextB bw.out hb2)
theorem ans_first {ps : List (Int × Int)} {s r : Int} (h : FirstI (fun i => (pth ps i).1 == s || (pth ps i).2 == s) ps.length r) :
    (r = -1 ∧ ansP ps s = -1) ∨ ∃ i : Nat, r = (i : Int) ∧ i < ps.length ∧ ansP ps s = (pth ps i).1 + (pth ps i).2 - s := by
  rcases h with ⟨rfl, h⟩ | ⟨i, rfl, hi, hp, hno⟩
  · left
    refine ⟨rfl, ?_⟩
    unfold ansP
    have : (ps.find? fun p => p.1 == s || p.2 == s) = none := by
      rw [List.find?_eq_none]
      intro x hx
      obtain ⟨j, hj, rfl⟩ := mem_pth hx
      have := h j hj
      simp only at this
      rw [this]; simp
    rw [this]
  · right
    refine ⟨i, rfl, hi, ?_⟩
    unfold ansP
    have : (ps.find? fun p => p.1 == s || p.2 == s) = some (pth ps i) := by
      rw [List.find?_eq_some_iff_getElem]
      refine ⟨hp, i, hi, by simp [pth, hi], fun j hj => ?_⟩
      have := hno j hj
      have hjl : j < ps.length := by omega
      simp only [pth, List.getD_eq_getElem?_getD, List.getElem?_eq_getElem hjl, Option.getD_some] at this
      simpa using this
    rw [this]
set_option maxRecDepth 100000 in
theorem ansF_any (A B s : Int) (g : Nat) (w : World) (hg : Blk w g 3 #[.int .i64 s]) :
    Calls Tryd.prog 58 #[.agg #[.int .i64 A, .int .i64 B], .pointer (some ⟨g, 0, none⟩)] w (Ret (.bool (A == s || B == s)) w) := by
  have x0 := (hg.alloc (.cells #[.int .i64 A, .int .i64 B] 58)).c 0 rfl
  clear hg
  have hA := Blk.new w 58 #[.int .i64 A, .int .i64 B]
  have y0 := hA.c 0 rfl
  have y1 := hA.c 1 rfl
  clear hA
  have hb := Lib.hid (b1 w (.cells #[.int .i64 A, .int .i64 B] 58))
  cases c1 : A == s
  · cases c2 : B == s
    all_goals
      go_enter Tryd.func58, Tryd.ntmps58
      go_wp2
      go_ret
      exact Ret.mk rfl hb.out
  · go_enter Tryd.func58, Tryd.ntmps58
    go_wp2
    go_ret
    exact Ret.mk rfl hb.out
set_option maxRecDepth 100000 in
set_option maxHeartbeats 2000000 in
theorem Answer_any (m : Nat) (a : Option Addr) (n c : Nat) (R : List Int) (pa : Option Addr) (l pc : Nat) (ps : List (Int × Int)) (s : Nat) (w : World) (h : Ints w a R) (hn : R.length = n) (hF : FieldP m R) (hp : Prs w pa ps) (hk : ps.length = l) (hk9 : l ≤ 1000) (hi : isP m R ps = true) (hs : s < m) :
    Calls Tryd.prog 22 #[.int .i64 (m : Nat), .slice a n c, .slice pa l pc, .int .i64 (s : Nat)] w (Ret (.tuple #[.int .i64 (ansP ps (s : Nat)), .int .i64 0]) w) := by
  have F := Lib.hid (fun W hW => nf_any (m : Int) a n c R W hW hn)
  rw [fE_field hF] at F
  simp only [if_true, Int.toNat_natCast] at F
  have P := Lib.hid (fun W hW hPW => isPA_any m a n c R pa l pc ps W hW hn hF hPW hk hk9)
  rw [hi] at P
  have K := fun W => knowsA_any m a n c (s : Int) W
  have hm9 := hF.le
  rw [decide_eq_true (show (0 : Int) ≤ (s : Int) by omega), decide_eq_true (show (s : Int) < (m : Int) by omega)] at K
  replace K := Lib.hid K
  have IX := fun (g : Nat) W (hg : Blk W g 3 #[.int .i64 (s : Nat)]) (hPW : Prs W pa ps) => indexFP_any 58 #[.pointer (some ⟨g, 0, none⟩)] (fun w' => Below W.heap.size W w') (fun i => (pth ps i).1 == (s : Int) || (pth ps i).2 == (s : Int)) ps pa l pc W (Below.refl _ _)
    (fun args W => by go_simp) hk9 (fun h0 => by
      obtain ⟨b, off, e, hc⟩ := prs_at hPW (by omega)
      exact ⟨b, off, e, fun W' hW' i hi => ⟨cellB hW' (hc i (by omega)).1, cellB hW' (hc i (by omega)).2⟩⟩)
    (fun W' hW' i _ _ => (ansF_any (pth ps i).1 (pth ps i).2 (s : Int) g W' (hg.ext hW')).mono fun e w' h => ⟨h.1, nextB hW' h.2⟩)
  have AF := Lib.hid (fun r (h : FirstI (fun i => (pth ps i).1 == (s : Int) || (pth ps i).2 == (s : Int)) l r) => ans_first (ps := ps) (by rw [hk]; exact h))
  have hgo : goodP m (-1) 0 ps = true := by
    unfold isP at hi
    rw [Bool.and_eq_true] at hi
    exact hi.1
  have PO := Lib.hid (fun i (h : i < l) => good_ok hF.le hgo (pth ps i) (pth_mem (by omega)))
  replace IX := Lib.hid IX
  have hI := Lib.hid h
  have hPs := Lib.hid hp
  have hB0 := Blk.new w 3 #[.int .i64 (s : Nat)]
  have hb0 := b1 w (.cells #[.int .i64 (s : Nat)] 3)
  replace hi := Lib.hid hi
  replace hgo := Lib.hid hgo
  replace hF := Lib.hid hF
  clear h hn hp
  go_enter Tryd.func22, Tryd.ntmps22
  go_wp2_with fail
  generalize w.alloc (.cells #[.int .i64 (s : Nat)] 3) = w0 at *
  refine (F.out _ (hI.out.next hb0)).mono ?_
  rintro e w1 ⟨rfl, hb1⟩
  have hB1 := (hB0.ext hb1).alloc (.cells #[.int .i64 (m : Nat), .slice a n c] 60)
  have hC1 := Blk.new w1 60 #[.int .i64 (m : Nat), .slice a n c]
  have bw := nextB (nextB hb0 hb1) (b1 w1 (.cells #[.int .i64 (m : Nat), .slice a n c] 60))
  have x0 := hB1.c 0 rfl
  have f0 := hC1.c 0 rfl
  have f1 := hC1.c 1 rfl
  replace hB0 := Lib.hid hB0
  replace hB1 := Lib.hid hB1
  replace hC1 := Lib.hid hC1
  go_wp2_with (first
    | (go_at_call 54; refine (P.out _ (hI.out.next bw) (hPs.out.next bw)).mono ?_; rintro e w2 ⟨rfl, hb2⟩; replace x0 := cellB hb2 x0; replace f0 := cellB hb2 f0; replace f1 := cellB hb2 f1; replace bw := nextB bw hb2)
    | (go_at_call 56; refine (K.out _).mono ?_; rintro e w3 ⟨rfl, hb3⟩; replace x0 := cellB hb3 x0; replace bw := nextB bw hb3)
    | (go_at_call 57; refine (IX.out _ _ ((hB1.out.ext hb2).ext hb3) (hPs.out.next bw)).mono ?_; rintro e w4 ⟨r, rfl, hr, hb4⟩; replace x0 := cellB hb4 x0; replace bw := nextB bw hb4; have hrr := AF.out r hr; clear hr; rcases hrr with ⟨rfl, ha⟩ | ⟨i, rfl, hil, ha⟩))
  · rw [ha]
    go_ret2
    exact Ret.mk rfl bw
  · obtain ⟨b, off, rfl, hc⟩ := prs_at (hPs.out.next bw) (by omega)
    obtain ⟨z0, z1⟩ := hc i hil
    obtain ⟨p1, p2, p3, p4⟩ := PO.out i (by omega)
    have hiI : (i : Int) < (l : Int) := by omega
    have ha2 := Lib.hid ha
    clear hc ha
    generalize (pth ps i).1 = A at *
    generalize (pth ps i).2 = B at *
    have e1 : IntKind.i64.wrap (A + B) = A + B := IntWalk.i64_in _ (by omega)
    have e2 : IntKind.i64.wrap (A + B - (s : Int)) = A + B - (s : Int) := IntWalk.i64_in _ (by omega)
    replace z0 := cellX z0
    replace z1 := cellX z1
    replace x0 := cellX x0
    clear f0 f1
    go_wp2
    refine wp_region_ext (by kernel_rfl) (by kernel_rfl) ?_
    repeat (go_big_quiet_step (fail))
    refine wpQuiet_nil ?_
    rintro ⟨w5, hw5⟩
    dsimp only
    clear x0 z0 z1
    go_wp2
    go_ret2
    exact Ret.mk (by rw [ha2.out]; rfl) (nextB bw hw5)
/-- An empty position. -/
def emp (m : Nat) : ByteArray := ⟨(List.replicate m (46 : UInt8)).toArray⟩
theorem emp_size (m : Nat) : (emp m).size = m := by
  show ((List.replicate m (46 : UInt8)).toArray).size = m
  simp
theorem emp_at {m i : Nat} (h : i < m) : bytA (emp m) i = 46 := by
  rw [bytA_of (by rw [emp_size]; exact h)]
  show ((List.replicate m (46 : UInt8)).getD i 0).toNat = 46
  rw [List.getD_eq_getElem?_getD, List.getElem?_replicate, if_pos h]
  rfl
def cE (m k : Nat) : Array Value := (Array.range m).map fun i => .int .u8 (if i < k then 46 else 0)
theorem cE_size (m k : Nat) : (cE m k).size = m := by simp [cE]
theorem cE_get {m k i : Nat} (h : i < m) : (cE m k)[i]? = some (.int .u8 (if i < k then 46 else 0)) := by simp [cE, h]
theorem cE_set (m k : Nat) (hk : k < m) : (cE m k).setIfInBounds k (.int .u8 46) = cE m (k + 1) := by
  apply Array.ext
  · simp [cE]
  · intro i h1 h2
    simp only [Array.size_setIfInBounds, cE_size] at h1
    rw [Array.getElem_setIfInBounds (by rw [cE_size]; exact h1)]
    by_cases e : k = i
    · subst e; simp [cE]
    · rw [if_neg e]
      have : (i < k + 1) = (i < k) := by rw [eq_iff_iff]; omega
      simp only [cE, Array.getElem_map, Array.getElem_range, this]
theorem infoU8 : (Tryd.prog.info? 5).map (fun i => (i.zero, i.size, i.bytes)) = some (some (.int .u8 0), 1, 1) := by kernel_rfl
theorem make_bys (m : Nat) (hm : m ≤ 1000000) (W : World) : (Instr.makeSlice 53 (.int .i64 (m : Int)) (.int .i64 (m : Int))).run Tryd.prog W = .ok (.slice (some ⟨W.heap.size, 0, none⟩) m m) (W.alloc (.cells (cE m 0) 5)) := by
  obtain ⟨i0, hi, hz0, hz1, hz2⟩ := info_parts infoU8
  rw [run_make W 53 5 i0 (.int .u8 0) Tryd.underlying53 hi hz0 .i64 .i64 m m (by omega) (by omega) (by rw [hz2]; omega) (by omega)]
  have e : madeCells (Value.int .u8 0).cells (m * 1) = cE m 0 := by
    apply Array.ext'
    simp [madeCells, cE, Value.cells, Nat.mod_one, List.map_const']
  simp only [Int.toNat_natCast, hz1, e]
set_option maxRecDepth 100000 in
set_option maxHeartbeats 2000000 in
theorem written_any (m : Nat) (hm : m ≤ 9) (w : World) : Calls Tryd.prog 32 #[.int .i64 (m : Nat), .int .i64 0, .int .i64 0] w (Ret (.string (emp m)) w) := by
  have hmk := make_bys m (by omega)
  have hz := Lib.hid (fun j => shr_bt 0 j)
  have hbk := Lib.hid (fun W (h : Blk W w.heap.size 5 (cE m m)) => bytes_back (List.replicate m (46 : UInt8)) m w.heap.size W (fun j hj => by
    rw [List.length_replicate] at hj
    rw [h.c j (cE_get hj), if_pos hj, List.getElem_replicate]; rfl))
  simp only [List.length_replicate] at hbk
  go_enter Tryd.func32, Tryd.ntmps32
  go_wp2
  go_loopw [8] (fun i wr => ∃ k : Nat, k ≤ m ∧ i = .int .i64 k ∧ Blk wr w.heap.size 5 (cE m k) ∧ Below w.heap.size w wr) (fun i _ => m - (intOf i).toNat)
  case atStart => exact ⟨0, by omega, rfl, Blk.new w 5 (cE m 0), b1 _ _⟩
  case round =>
    obtain ⟨k, hk, rfl, hB, B0⟩ := hrel
    by_cases hlt : k < m
    · have hki : (k : Int) < (m : Int) := by omega
      have x0 := hB.c k (cE_get hlt)
      have fz := hB.fr k
      have hs := hB.setA (i := k) (.int .u8 46)
      rw [cE_set m k hlt] at hs
      have hb2 := B0.setCell (p := ⟨w.heap.size, k, none⟩) (Nat.le_refl _) (.int .u8 46)
      have z1 := hz.out k
      have z2 : bt 0 k = 0 := by unfold bt; simp
      rw [z2] at z1
      replace hs := Lib.hid hs
      replace hb2 := Lib.hid hb2
      replace hB := Lib.hid hB
      go_wp2
      go_roundw
      case rel => exact ⟨k + 1, by omega, by go_num, hs.out, hb2.out⟩
      case measure => simp [intOf]; omega
    · obtain rfl : k = m := by omega
      have hbb := hbk.out _ hB
      go_wp2
      go_ret
      exact Ret.mk rfl B0
end Go.Proofs.YtbdhceolchhnjaaDoor
