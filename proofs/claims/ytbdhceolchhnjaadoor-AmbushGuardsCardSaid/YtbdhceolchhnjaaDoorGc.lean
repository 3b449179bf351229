/- Layer 4, by the program: Guards; by the specification: a position of wolves. -/
import Derived.Test.YtbdhceolchhnjaaDoorGb
import Derived.Test.YtbdhceolchhnjaaDoorUb
namespace Go.Proofs.YtbdhceolchhnjaaDoor
open Go Go.RowKit

/-- The spots that guard, and no error. -/
def GdC (m : Nat) (R : List Int) (w : World) (e : Ending) (w' : World) : Prop := ∃ g cap, e = .returned (.tuple #[.slice (some ⟨g, 0, none⟩) (gdL m R).length cap, .int .i64 0]) ∧ (∀ t, t < (gdL m R).length → w'.cell? ⟨g, 0 + t, none⟩ = some (.int .i64 (((gdL m R).getD t 0 : Nat) : Int))) ∧ Below w.heap.size w w'
set_option maxRecDepth 100000 in
set_option maxHeartbeats 2000000 in
theorem Guards_any (m : Nat) (a : Option Addr) (n c : Nat) (R : List Int) (w : World) (h : Ints w a R) (hn : R.length = n) (hF : FieldP m R) (hT : Tab w) :
    Calls Tryd.prog 24 #[.int .i64 (m : Nat), .slice a n c] w (GdC m R w) := by
  have F := Lib.hid (fun W hW => nf_any (m : Int) a n c R W hW hn)
  rw [fE_field hF] at F
  simp only [if_true, Int.toNat_natCast] at F
  have NG := Lib.hid (fun W => newGameA_any m a n c R W)
  have GD := Lib.hid (fun B W (hst : StG m a R B w W) => guards_any m a n c R B w W hF hn hst)
  have hI := Lib.hid h
  have hTab := Lib.hid hT
  replace hF := Lib.hid hF
  clear h hT hn
  unfold GdC
  unfold GdR at GD
  generalize (gdL m R).length = k at *
  go_enter Tryd.func24, Tryd.ntmps24
  go_wp2_with (first
    | (go_at_call 51; refine (F.out _ hI.out).mono ?_; rintro e w1 ⟨rfl, hb1⟩; have bw := Lib.hid (nextB hb1 (b1 w1 (.cells #[.int .i64 (m : Nat), .slice a n c] 60))))
    | (go_at_call 41; refine (NG.out _).mono ?_; rintro e w2 ⟨B, rfl, hB, hK, hb2⟩; have hst : Hid (StG m a R B w w2) := Lib.hid ⟨nextB bw.out hb2, hK, Nat.le_trans bw.out.size hB, hI.out, hTab.out⟩; replace hK := Lib.hid hK)
    | (go_at_call 59; refine (GD.out _ _ hst.out).mono ?_; rintro e w3 ⟨g, cap, rfl, hgB, hc, hk3, hm3⟩; replace hc := Lib.hid hc; replace hm3 := Lib.hid hm3))
  go_ret2
  exact ⟨g, cap, rfl, hc.out, hk3.below (nextB bw.out hb2) (Nat.le_trans bw.out.size hB)⟩
/-- The wolves' letter, or a dot. -/
def wlB (s i : Nat) : Nat := if bt s i = 1 then 119 else 46
/-- A position with these wolves. -/
def wlS (m s : Nat) : ByteArray := ⟨((List.range m).map fun i => UInt8.ofNat (wlB s i)).toArray⟩
theorem wlS_size (m s : Nat) : (wlS m s).size = m := by
  show (((List.range m).map fun i => UInt8.ofNat (wlB s i)).toArray).size = m
  simp
theorem wlB_lt (s i : Nat) : wlB s i < 256 := by unfold wlB; split <;> omega
theorem wlS_at {m s i : Nat} (h : i < m) : bytA (wlS m s) i = wlB s i := by
  rw [bytA_of (by rw [wlS_size]; exact h)]
  show (((List.range m).map fun i => UInt8.ofNat (wlB s i)).getD i 0).toNat = wlB s i
  rw [List.getD_eq_getElem?_getD, List.getElem?_map, List.getElem?_range h]
  have := wlB_lt s i
  show (UInt8.ofNat (wlB s i)).toNat = wlB s i
  rw [UInt8.toNat_ofNat']
  omega
def cW (s m k : Nat) : Array Value := (Array.range m).map fun i => .int .u8 (if i < k then (wlB s i : Nat) else 0)
theorem cW_size (s m k : Nat) : (cW s m k).size = m := by simp [cW]
theorem cW_get {s m k i : Nat} (h : i < m) : (cW s m k)[i]? = some (.int .u8 (if i < k then (wlB s i : Nat) else 0)) := by simp [cW, h]
theorem cW_set (s m k : Nat) (hk : k < m) (v : Value) : ((cW s m k).setIfInBounds k v).setIfInBounds k (.int .u8 (wlB s k : Nat)) = cW s m (k + 1) := by
  apply Array.ext
  · simp [cW]
  · intro i h1 h2
    simp only [Array.size_setIfInBounds, cW_size] at h1
    rw [Array.getElem_setIfInBounds (by simp [cW_size]; exact h1)]
    by_cases e : k = i
    · subst e; simp [cW]
    · rw [if_neg e, Array.getElem_setIfInBounds (by rw [cW_size]; exact h1), if_neg e]
      have : (i < k + 1) = (i < k) := by rw [eq_iff_iff]; omega
      simp only [cW, Array.getElem_map, Array.getElem_range, this]
theorem cW_one (s m k : Nat) (hk : k < m) : (cW s m k).setIfInBounds k (.int .u8 (wlB s k : Nat)) = cW s m (k + 1) := by
  rw [← cW_set s m k hk (.int .u8 (wlB s k : Nat))]
  simp
theorem cW_zero (s m : Nat) : cE m 0 = cW s m 0 := by
  unfold cE cW
  simp
set_option maxRecDepth 100000 in
set_option maxHeartbeats 2000000 in
theorem writtenW_any (m s : Nat) (hm : m ≤ 9) (hs : s < 512) (w : World) : Calls Tryd.prog 32 #[.int .i64 (m : Nat), .int .i64 (s : Nat), .int .i64 0] w (Ret (.string (wlS m s)) w) := by
  have hmk := make_bys m (by omega)
  rw [cW_zero s m] at hmk
  have hz := Lib.hid (fun j => shr_bt 0 j)
  have hy := Lib.hid (fun j => shr_bt s j)
  have hbk := Lib.hid (fun W (h : Blk W w.heap.size 5 (cW s m m)) => bytes_back ((List.range m).map fun i => UInt8.ofNat (wlB s i)) m w.heap.size W (fun j hj => by
    rw [List.length_map, List.length_range] at hj
    rw [h.c j (cW_get hj), if_pos hj, List.getElem_map, List.getElem_range]
    have := wlB_lt s j
    rw [UInt8.toNat_ofNat']
    rw [show wlB s j % 2 ^ 8 = wlB s j by omega]))
  simp only [List.length_map, List.length_range] at hbk
  go_enter Tryd.func32, Tryd.ntmps32
  go_wp2
  go_loopw [8] (fun i wr => ∃ k : Nat, k ≤ m ∧ i = .int .i64 k ∧ Blk wr w.heap.size 5 (cW s m k) ∧ Below w.heap.size w wr) (fun i _ => m - (intOf i).toNat)
  case atStart => exact ⟨0, by omega, rfl, Blk.new w 5 (cW s m 0), b1 _ _⟩
  case round =>
    obtain ⟨k, hk, rfl, hB, B0⟩ := hrel
    by_cases hlt : k < m
    · have hki : (k : Int) < (m : Int) := by omega
      have x0 := hB.c k (cW_get hlt)
      have fz := hB.fr k
      have hs1 := hB.setA (i := k) (.int .u8 46)
      have hb1 := B0.setCell (p := ⟨w.heap.size, k, none⟩) (Nat.le_refl _) (.int .u8 46)
      have z1 := hz.out k
      have z2 : bt 0 k = 0 := by unfold bt; simp
      rw [z2] at z1
      have y1 := hy.out k
      by_cases hbt : bt s k = 1
      · have hwl : wlB s k = 119 := by unfold wlB; rw [if_pos hbt]
        have y2 : (((s : Int) / 2 ^ k).tmod 2 == 1) = true := by rw [y1, hbt]; rfl
        have x1 := hs1.c k (by rw [Array.getElem?_setIfInBounds_self_of_lt (by rw [cW_size]; exact hlt)])
        have fz1 := hs1.fr k
        have hs2 := hs1.setA (i := k) (.int .u8 119)
        have hcw := cW_set s m k hlt (.int .u8 46)
        rw [hwl] at hcw
        have hcw2 : ((cW s m k).setIfInBounds k (.int .u8 46)).setIfInBounds k (.int .u8 119) = cW s m (k + 1) := hcw
        rw [hcw2] at hs2
        have hb2 := hb1.setCell (p := ⟨w.heap.size, k, none⟩) (Nat.le_refl _) (.int .u8 119)
        replace hs1 := Lib.hid hs1
        replace hs2 := Lib.hid hs2
        replace hb2 := Lib.hid hb2
        replace hb1 := Lib.hid hb1
        replace hB := Lib.hid hB
        clear y1 hbt hcw hcw2 hwl
        go_wp2
        go_roundw
        case rel => exact ⟨k + 1, by omega, by go_num, hs2.out, hb2.out⟩
        case measure => simp [intOf]; omega
      · have hwl : wlB s k = 46 := by unfold wlB; rw [if_neg hbt]
        have hb0 : bt s k = 0 := by have := bt_lt s k; omega
        have y2 : (((s : Int) / 2 ^ k).tmod 2 == 1) = false := by rw [y1, hb0]; rfl
        have hcw := cW_one s m k hlt
        rw [hwl] at hcw
        have hcw2 : (cW s m k).setIfInBounds k (.int .u8 46) = cW s m (k + 1) := hcw
        rw [hcw2] at hs1
        replace hs1 := Lib.hid hs1
        replace hb1 := Lib.hid hb1
        replace hB := Lib.hid hB
        clear y1 hbt hcw hcw2 hwl hb0
        go_wp2
        go_roundw
        case rel => exact ⟨k + 1, by omega, by go_num, hs1.out, hb1.out⟩
        case measure => simp [intOf]; omega
    · obtain rfl : k = m := by omega
      have hbb := hbk.out _ hB
      go_wp2
      go_ret
      exact Ret.mk rfl B0
end Go.Proofs.YtbdhceolchhnjaaDoor
