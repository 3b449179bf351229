/- Layer 3, by the program: Turns, Same. -/
import Derived.Test.YtnnndooagpkgmaaVh
namespace Go.Proofs.Ytnnndooagpkgmaa
open Go Go.RowKit

/-- m cells, of which the first k are written. -/
def cU (g : Nat → Value) (z : Value) (k m : Nat) : Array Value := ((List.range m).map fun i => if i < k then g i else z).toArray
theorem cU_size (g : Nat → Value) (z : Value) (k m : Nat) : (cU g z k m).size = m := by simp [cU]
theorem cU_get {g : Nat → Value} {z : Value} {k m i : Nat} (h : i < m) : (cU g z k m)[i]? = some (if i < k then g i else z) := by simp [cU, h]
theorem cU_set (g : Nat → Value) (z : Value) (k m : Nat) : (cU g z k m).setIfInBounds k (g k) = cU g z (k + 1) m := by
  apply Array.ext
  · simp [cU]
  · intro i h1 h2
    simp only [Array.size_setIfInBounds, cU_size] at h1
    rw [Array.getElem_setIfInBounds (by simpa [cU_size] using h1)]
    by_cases e : k = i
    · subst e; simp [cU]
    · have : i < k + 1 ↔ i < k := by omega
      simp [e, cU, this]
theorem Blk.setU {W : World} {B : Nat} {t : TypeId} {g : Nat → Value} {z : Value} {m k : Nat} (h : Blk W B t (cU g z k m)) : Blk (W.setCell ⟨B, k, none⟩ (g k)) B t (cU g z (k + 1) m) := by
  rw [← cU_set]; exact h.setA _
theorem make_ints (m : Nat) (hm : m ≤ 1000000) (g : Nat → Value) (W : World) : (Instr.makeSlice 22 (.int .i64 (m : Int)) (.int .i64 (m : Int))).run Try.prog W = .ok (.slice (some ⟨W.heap.size, 0, none⟩) m m) (W.alloc (.cells (cU g (.int .i64 0) 0 m) 3)) := by
  obtain ⟨i0, hi, hz0, hz1, hz2⟩ := info_parts infoInt
  rw [run_make W 22 3 i0 (.int .i64 0) Try.underlying22 hi hz0 .i64 .i64 m m (by omega) (by omega) (by rw [hz2]; omega) (by omega)]
  have e : madeCells (Value.int .i64 0).cells (m * 1) = cU g (.int .i64 0) 0 m := by
    apply Array.ext'
    simp [madeCells, cU, Value.cells, Nat.mod_one, List.map_const']
  simp only [Int.toNat_natCast, hz1, e]
/-- The numbers g 0, .., g (m - 1). -/
def listI (g : Nat → Int) (m : Nat) : List Int := (List.range m).map g
theorem listI_length (g : Nat → Int) (m : Nat) : (listI g m).length = m := by simp [listI]
theorem listI_nth {g : Nat → Int} {m i : Nat} (h : i < m) : nth (listI g m) i = g i := by simp [listI, nth, h]
theorem Ints.ofU {W : World} {B m : Nat} {t : TypeId} {g : Nat → Int} {z : Value} (h : Blk W B t (cU (fun i => .int .i64 (g i)) z m m)) : Ints W (some ⟨B, 0, none⟩) (listI g m) :=
  .inr ⟨B, 0, rfl, fun i hi => by
    rw [listI_length] at hi
    have := h.c i (cU_get (k := m) hi)
    rw [if_pos hi] at this
    rw [Nat.zero_add, listI_nth hi]; exact this⟩
/-- How many sets a drover turns. -/
def turnI (f : Nat → Bool) (N d : Nat) : Int := ((cnt (turnB f d) N : Nat) : Int)
set_option maxRecDepth 100000 in
set_option maxHeartbeats 1600000 in
theorem Turns_yes (q : Int) (a : Option Addr) (n c : Nat) (ws : List Int) (w : World) (h : Ints w a ws) (hl : ws.length = n) (hB : BodyP q ws) :
    Calls Try.prog 22 #[bodyV q a n c] w (GotI (listI (turnI (winB q ws) (pw n)) n) w) := by
  have h8 : n ≤ 8 := by have := hB.2.1; omega
  have hp8 : pw n ≤ 256 := by have := pw_mono h8; simpa [pw] using this
  have T := Lib.hid (fun B d W (hd : d < n) hW => turned_any n B d (winB q ws) W h8 hd hW)
  obtain ⟨N, hN⟩ : ∃ N, Hid (pw n = N) := ⟨_, Lib.hid rfl⟩
  have K := Lib.hid (fun W hW => gob_at q a n c ws W hW hl hB N hN.out)
  rw [hN.out] at T hp8 ⊢
  have hle := Lib.hid (fun d => cnt_le (turnB (winB q ws) d) N)
  generalize winB q ws = f at *
  have hmk := make_ints n (by omega) (fun i => .int .i64 (turnI f N i))
  have h := Lib.hid h
  clear hl hB
  go_enter Try.func22, Try.ntmps22
  go_wp2_with (go_at_call 43; refine (K.out _ (h.out.next (b1 _ _))).mono ?_; rintro e w1 ⟨B, rfl, hg, hBo, hb1⟩; replace hBo := Lib.hid hBo)
  have I0 := Blk.new (w1.alloc (.cells #[.int .i64 (n : Nat), .slice (some ⟨B, 0, none⟩) N N] 60)) 3 (cU (fun i => .int .i64 (turnI f N i)) (.int .i64 0) 0 n)
  have G0 := (Blk.new w1 60 #[.int .i64 (n : Nat), .slice (some ⟨B, 0, none⟩) N N]).alloc (.cells (cU (fun i => .int .i64 (turnI f N i)) (.int .i64 0) 0 n) 3)
  have hBo2 := Lib.hid (hBo.out.next (b2 w1 (.cells #[.int .i64 (n : Nat), .slice (some ⟨B, 0, none⟩) N N] 60) (.cells (cU (fun i => .int .i64 (turnI f N i)) (.int .i64 0) 0 n) 3)))
  have B1 := nextB (b1 w (.cells #[.int .i64 q, .slice a n c] 24)) (nextB hb1 (b2 w1 (.cells #[.int .i64 (n : Nat), .slice (some ⟨B, 0, none⟩) N N] 60) (.cells (cU (fun i => .int .i64 (turnI f N i)) (.int .i64 0) 0 n) 3)))
  have hBlt : Hid (0 < N → B < w1.heap.size) := Lib.hid (fun h0 => block_lt_of_cell (hBo.out 0 h0))
  have e1 : (w1.alloc (.cells #[.int .i64 (n : Nat), .slice (some ⟨B, 0, none⟩) N N] 60)).heap.size = w1.heap.size + 1 := by simp
  rw [e1] at I0
  clear e1 hmk hBo
  have hszw : w.heap.size ≤ w1.heap.size := by have := hb1.size; simp at this; omega
  have hN0 : 0 < N := by rw [← hN.out]; exact pw_pos n
  generalize hgs : w1.heap.size = z at *
  clear hgs
  go_loopw [7, 20] (fun _ i wr => ∃ k : Nat, k ≤ n ∧ i = .int .i64 k ∧ Blk wr (z + 1) 3 (cU (fun i => .int .i64 (turnI f N i)) (.int .i64 0) k n) ∧ Blk wr z 60 #[.int .i64 (n : Nat), .slice (some ⟨B, 0, none⟩) N N] ∧ Bools wr B N f ∧ Below w.heap.size w wr) (fun _ i _ => n - (intOf i).toNat)
  case atStart => exact ⟨0, by omega, rfl, I0, G0, hBo2.out, B1⟩
  case round =>
    clear I0 G0 hBo2 B1
    obtain ⟨k, hk, rfl, I0, G0, hBo, B1⟩ := hrel
    by_cases hlt : k < n
    · have hki : (k : Int) < (n : Int) := by omega
      have g0 := G0.c 0 rfl
      have g1 := G0.c 1 rfl
      replace hBo := Lib.hid hBo
      replace I0 := Lib.hid I0
      replace G0 := Lib.hid G0
      have hc := hle.out k
      go_wp2_with (go_at_call 47; refine (T.out B k _ hlt hBo.out).mono ?_; rintro e w2 ⟨rfl, hb2⟩; have I1 := I0.out.ext hb2; have i0 := I1.c k (cU_get hlt); have i1 := I1.fr k; have I2 := Lib.hid I1.setU; have hil := I1.lt; replace I1 := Lib.hid I1)
      go_roundw
      case rel => exact ⟨k + 1, by omega, by go_num, I2.out, (G0.out.ext hb2).other (by omega) _, (hBo.out.next hb2).other (by have := hBlt.out hN0; omega) _, (nextB B1 hb2).setCell (show w.heap.size ≤ z + 1 by omega) _⟩
      case measure => simp [intOf]; omega
    · obtain rfl : k = n := by omega
      replace hBo := Lib.hid hBo
      replace I0 := Lib.hid I0
      replace G0 := Lib.hid G0
      go_wp2_with fail
      go_ret2
      refine ⟨some ⟨z + 1, 0, none⟩, k, (show Ending.returned (.tuple #[.slice (some ⟨z + 1, 0, none⟩) k k, .int .i64 0]) = _ by rw [listI_length]), by rw [listI_length]; omega, Ints.ofU I0.out, B1⟩
/-- Are the first N the same? -/
def sameB (f g : Nat → Bool) (N : Nat) : Prop := ∀ i, i < N → f i = g i
instance (f g : Nat → Bool) (N : Nat) : Decidable (sameB f g N) := by unfold sameB; infer_instance
set_option maxRecDepth 100000 in
set_option maxHeartbeats 1600000 in
theorem equal_any (B C N : Nat) (f g : Nat → Bool) (w : World) (hB : Bools w B N f) (hC : Bools w C N g) (hN : N ≤ 1000) :
    Calls Try.prog 55 #[.slice (some ⟨B, 0, none⟩) N N, .slice (some ⟨C, 0, none⟩) N N] w (Ret (.bool (decide (sameB f g N))) w) := by
  replace hB := Lib.hid hB
  replace hC := Lib.hid hC
  have hne : ((N : Int) != (N : Int)) = false := by simp
  go_enter Try.func55, Try.ntmps55
  go_wp2
  go_loopw [5, 13] (fun _ i wr => ∃ k : Nat, k ≤ N ∧ i = .int .i64 k ∧ sameB f g k ∧ Below w.heap.size w wr) (fun _ i _ => N - (intOf i).toNat)
  case atStart => exact ⟨0, by omega, rfl, fun i hi => absurd hi (by omega), Below.refl _ _⟩
  case round =>
    obtain ⟨k, hk, rfl, hs, B0⟩ := hrel
    replace hs := Lib.hid hs
    by_cases hlt : k < N
    · have hki : (k : Int) < (N : Int) := by omega
      have x0 := cellX (cellB B0 (hB.out k hlt))
      have x1 := cellX (cellB B0 (hC.out k hlt))
      cases gf : f k
      all_goals
        cases gg : g k
        all_goals
          rw [gf] at x0
          rw [gg] at x1
          have hfg := Lib.hid (And.intro gf gg)
          clear gf gg
          go_wp2
          refine wp_region_ext (by kernel_rfl) (by kernel_rfl) ?_
          repeat (go_big_quiet_step (fail))
          refine wpQuiet_nil ?_
          rintro ⟨w1, hw1⟩
          dsimp only
          clear x0 x1
          go_wp2
          first
            | (go_ret
               exact Ret.mk (show Value.bool false = _ by rw [decide_eq_false (fun h => by have := h k hlt; rw [hfg.out.1, hfg.out.2] at this; cases this)]) (nextB B0 hw1))
            | (go_roundw
               case rel => exact ⟨k + 1, by omega, by go_num, fun i hi => (by
                 by_cases e : i = k
                 · subst e; rw [hfg.out.1, hfg.out.2]
                 · exact hs.out i (by omega)), nextB B0 hw1⟩
               case measure => simp [intOf]; omega)
    · obtain rfl : k = N := by omega
      go_wp2
      go_ret
      exact Ret.mk (show Value.bool true = _ by rw [decide_eq_true hs.out]) B0
end Go.Proofs.Ytnnndooagpkgmaa
