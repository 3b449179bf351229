/- Layer 4, by the program: the danger. -/
import Derived.Test.YtbdhceolchhnjaaDoorAg
namespace Go.Proofs.YtbdhceolchhnjaaDoor
open Go Go.RowKit

theorem wrap64_i (x : Int) : wrap64 x = IntKind.i64.wrap x := by rw [IntKind.wrap_i64]; unfold wrap64; omega
/-- A field. -/
structure FieldP (m : Nat) (R : List Int) : Prop where
  pos : 1 ≤ m
  le : m ≤ 9
  few : R.length ≤ 12
  line : ∀ z ∈ R, 1 ≤ z ∧ z.toNat < pw m
theorem FieldP.sets {m : Nat} {R : List Int} (h : FieldP m R) : Sets R := fun z hz => by
  have := h.line z hz
  have h2 := pw_mono h.le
  have h4 : pw 9 = 512 := rfl
  omega
theorem FieldP.at {m : Nat} {R : List Int} (h : FieldP m R) {k : Nat} (hk : k < R.length) : 1 ≤ (nth R k).toNat ∧ (nth R k).toNat < 512 ∧ (nth R k).toNat < pw m ∧ nth R k = ((nth R k).toNat : Int) := by
  have := h.line _ (nth_mem hk)
  have h2 := pw_mono h.le
  have h4 : pw 9 = 512 := rfl
  omega
theorem cntF_high {s m : Nat} (hs : s < pw m) : ∀ k, m ≤ k → cntF s k = cntF s m := by
  intro k
  induction k with
  | zero => intro h; rw [show m = 0 by omega]
  | succ k ih =>
    intro h
    by_cases e : m = k + 1
    · rw [e]
    · rw [cntF, ih (by omega), bt_high (by have := pw_mono (show m ≤ k by omega); omega)]; rfl
theorem wt_prog {m x w d : Nat} (hm : m ≤ 9) (hx : x < pw m) (h0 : x &&& d = 0) : wt m x w d = pw (m - cntF (x &&& frS m w d) 9) ∧ cntF (x &&& frS m w d) 9 ≤ m := by
  have h1 : ∀ i, i < m → (x &&& frS m w d).testBit i = (x.testBit i && !(w.testBit i)) := by
    intro i hi
    rw [Nat.testBit_and, frS_test, decide_eq_true hi]
    unfold frB
    cases hb : x.testBit i
    · rfl
    · rw [and_zero.1 h0 i hb]; simp
  have h2 : x &&& frS m w d < pw m := Nat.lt_of_le_of_lt Nat.and_le_left hx
  have h3 := lack_cnt h1
  have h4 := lack_le m x w
  rw [cntF_high h2 9 hm, ← h3]
  exact ⟨by unfold wt; rw [if_pos h0], h4⟩
theorem dng_take (m : Nat) (R : List Int) (w d k : Nat) (h : k < R.length) : dngL m (R.take (k + 1)) w d = dngL m (R.take k) w d + wt m (nth R k).toNat w d := by
  rw [take_snocI _ _ h]
  unfold dngL
  simp
theorem wt_le (m x w d : Nat) : wt m x w d ≤ pw m := by
  unfold wt
  split
  · exact pw_mono (Nat.sub_le _ _)
  · exact Nat.zero_le _
theorem dng_le {m : Nat} (hm : m ≤ 9) (w d : Nat) : ∀ R : List Int, dngL m R w d ≤ 512 * R.length := by
  intro R
  induction R with
  | nil => exact Nat.le_refl _
  | cons x R ih =>
    have h1 := wt_le m x.toNat w d
    have h2 := pw_mono hm
    have h4 : pw 9 = 512 := rfl
    unfold dngL at *
    rw [List.map_cons, List.sum_cons, List.length_cons]
    omega
set_option maxRecDepth 100000 in
set_option maxHeartbeats 4000000 in
theorem danger_any (m : Nat) (a : Option Addr) (n c : Nat) (R : List Int) (x y : Nat) (w : World) (h : Ints w a R) (hn : R.length = n) (hF : FieldP m R) (hx : x < 65536) (hy : y < 65536) :
    Calls Tryd.prog 69 #[fV m a n c, pV x y] w (Ret (.int .i64 (dngL m R x y : Nat)) w) := by
  have hm := hF.le
  have h12 : n ≤ 12 := by have := hF.few; omega
  have hnx := Lib.hid (fun k (hk : k < n) => hF.at (k := k) (by omega))
  have hdt := Lib.hid (fun k (hk : k < n) => dng_take m R x y k (by omega))
  have hdl : Hid (∀ k, k ≤ n → dngL m (R.take k) x y ≤ 6144) := Lib.hid (fun k hk => by
    have := dng_le hm x y (R.take k)
    rw [List.length_take] at this
    omega)
  have hend : Hid (R.take n = R) := Lib.hid (List.take_of_length_le (by omega))
  have hh : Hid (0 < n → ∃ b off, a = some ⟨b, off, none⟩ ∧ ∀ i, i < n → w.cell? ⟨b, off + i, none⟩ = some (.int .i64 (nth R i))) := Lib.hid (fun h0 => by
    obtain ⟨b, off, e, hc⟩ := ints_at h (by omega)
    exact ⟨b, off, e, fun i hi => hc i (by omega)⟩)
  have F := Lib.hid (fun W => freeA_any m a n c x y W hm hx hy)
  have hwt := Lib.hid (fun z (hz : z < pw m) (h0 : z &&& y = 0) => wt_prog (w := x) hm hz h0)
  have hwz : Hid (∀ z, z &&& y ≠ 0 → wt m z x y = 0) := Lib.hid (fun z hz => by unfold wt; rw [if_neg hz])
  clear h hn hF
  have hA := (Blk.new w 60 #[.int .i64 (m : Nat), .slice a n c]).alloc (.cells #[.int .i64 (x : Nat), .int .i64 (y : Nat)] 62)
  have hB : Blk ((w.alloc (.cells #[.int .i64 (m : Nat), .slice a n c] 60)).alloc (.cells #[.int .i64 (x : Nat), .int .i64 (y : Nat)] 62)) (w.heap.size + 1) 62 #[.int .i64 (x : Nat), .int .i64 (y : Nat)] := by
    have := Blk.new (w.alloc (.cells #[.int .i64 (m : Nat), .slice a n c] 60)) 62 #[.int .i64 (x : Nat), .int .i64 (y : Nat)]
    simpa using this
  have hb := b2 w (.cells #[.int .i64 (m : Nat), .slice a n c] 60) (.cells #[.int .i64 (x : Nat), .int .i64 (y : Nat)] 62)
  go_enter Tryd.func69, Tryd.ntmps69
  go_wp2
  generalize (w.alloc (.cells #[.int .i64 (m : Nat), .slice a n c] 60)).alloc (.cells #[.int .i64 (x : Nat), .int .i64 (y : Nat)] 62) = w1 at *
  go_loopw [5, 7, 11] (fun s _ i wr => ∃ k : Nat, k ≤ n ∧ i = .int .i64 k ∧ s = .int .i64 (dngL m (R.take k) x y : Nat) ∧ Below w1.heap.size w1 wr) (fun _ _ i _ => n - (intOf i).toNat)
  case atStart => exact ⟨0, by omega, rfl, rfl, Below.refl _ _⟩
  case round =>
    obtain ⟨k, hk, rfl, rfl, B0⟩ := hrel
    by_cases hlt : k < n
    · obtain ⟨b, off, rfl, hcc⟩ := hh.out (by omega)
      have z0 := cellB B0 (cellB hb (hcc k hlt))
      clear hcc
      obtain ⟨k1, k2, k3, k4⟩ := hnx.out k hlt
      have hdk := Lib.hid (hdt.out k hlt)
      have hdb := hdl.out k hk
      rw [k4] at z0
      generalize dngL m (R.take k) x y = D at *
      generalize (nth R k).toNat = z at *
      clear k4
      have hki : (k : Int) < (n : Int) := by omega
      have y1 : wr.cell? ⟨w.heap.size + 1, 1, none⟩ = some (.int .i64 (y : Nat)) := cellB B0 (hB.c 1 rfl)
      have an := i64_and_nat z y (by omega) (by omega)
      by_cases h0 : z &&& y = 0
      · obtain ⟨t1, t2⟩ := hwt.out z k3 h0
        rw [h0] at an
        have an0 : bits .and .i64 (z : Int) (y : Int) = 0 := an
        clear an
        have x0 : wr.cell? ⟨w.heap.size, 0, none⟩ = some (.int .i64 (m : Nat)) := cellB B0 (hA.c 0 rfl)
        have x1 : wr.cell? ⟨w.heap.size, 1, none⟩ = some (.slice (some ⟨b, off, none⟩) n c) := cellB B0 (hA.c 1 rfl)
        have y0 : wr.cell? ⟨w.heap.size + 1, 0, none⟩ = some (.int .i64 (x : Nat)) := cellB B0 (hB.c 0 rfl)
        have hf9 := frS_lt hm x y
        have hcl : z &&& frS m x y < 512 := Nat.lt_of_le_of_lt Nat.and_le_left k2
        have an2 := i64_and_nat z (frS m x y) (by omega) (by omega)
        have O := Lib.hid (fun W => ones_any (z &&& frS m x y) hcl W)
        have F1 := F
        rw [t1] at hdk
        generalize frS m x y = f at *
        generalize z &&& f = g at *
        generalize cntF g 9 = q at *
        have hcv : IntKind.u64.wrap (g : Int) = (g : Int) := by rw [IntKind.wrap_u64]; omega
        have hsu : IntKind.i64.wrap ((m : Int) - (q : Int)) = ((m - q : Nat) : Int) := by rw [IntWalk.i64_in _ (by omega)]; omega
        have sh := wrap_shl (k := m - q) (by omega)
        have hpb : pw (m - q) ≤ 512 := by have := pw_mono (show m - q ≤ 9 by omega); have h4 : pw 9 = 512 := rfl; omega
        have had : IntKind.i64.wrap ((D : Int) + ((pw (m - q) : Nat) : Int)) = ((D + pw (m - q) : Nat) : Int) := by rw [IntWalk.i64_in _ (by omega)]; omega
        have hq : (0 : Int) ≤ ((m - q : Nat) : Int) := by omega
        have hr : Hid (m - q ≤ 9) := Lib.hid (by omega)
        generalize pw (m - q) = e at *
        generalize m - q = r at *
        replace hdb := Lib.hid hdb
        clear t1 t2 k1 k2 k3 hwt hwz hdt hdl
        replace h0 := Lib.hid h0
        go_wp2
        refine wp_region_ext (by kernel_rfl) (by kernel_rfl) ?_
        replace x0 := cellX x0
        replace x1 := cellX x1
        replace y0 := cellX y0
        replace y1 := cellX y1
        repeat (go_big_quiet_step (first | with_reducible exact callE (F1.out _) | with_reducible exact onlyE (O.out _)))
        refine wpQuiet_nil ?_
        rintro ⟨w2, hw2⟩
        dsimp only
        clear x0 x1 y0 y1
        go_wp2
        go_roundw
        case rel =>
          have hmin : min r 64 = r := by have := hr.out; omega
          exact ⟨k + 1, by omega, by go_num, by rw [hdk.out, hmin]; rw [wrap64_i, wrap64_i, sh, had], nextB B0 hw2⟩
        case measure => simp [intOf]; omega
      · have hz0 := hwz.out z h0
        rw [hz0] at hdk
        have hne : ((z &&& y : Nat) : Int) ≠ 0 := by omega
        generalize z &&& y = g at *
        have hne2 : (((g : Nat) : Int) == 0) = false := by rw [beq_eq_false_iff_ne]; exact hne
        go_wp2
        go_roundw
        case rel => exact ⟨k + 1, by omega, by go_num, by rw [hdk.out]; rfl, B0⟩
        case measure => simp [intOf]; omega
    · obtain rfl : k = n := by omega
      go_wp2
      go_ret
      rw [hend.out]
      exact Ret.mk rfl (nextB hb B0)
end Go.Proofs.YtbdhceolchhnjaaDoor
