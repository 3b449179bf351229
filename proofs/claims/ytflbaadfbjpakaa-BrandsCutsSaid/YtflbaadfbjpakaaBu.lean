/- Layer 2: slices.Grow of nil; slices.Concat of lists of pairs. -/
import Derived.Test.YtflbaadfbjpakaaBt
import Derived.Lib.AppendZeros
import Derived.Laws.AppendOwnNone
namespace Go.Proofs.Ytflbaadfbjpakaa
open Go Go.RowKit

theorem infoPair : (Try.prog.info? 60).map (fun i => (i.zero, i.size, i.bytes)) = some (some (.agg #[.int .i64 0, .int .i64 0]), 2, 16) := by kernel_rfl
set_option maxRecDepth 100000 in
set_option maxHeartbeats 1600000 in
theorem grow_zero (w : World) : Calls Try.prog 91 #[.slice none 0 0, .int .i64 0] w (Only (.slice none 0 0) w) := by
  go_enter Try.func91, Try.ntmps91
  go_wp2
  go_ret
  exact Only.mk rfl
set_option maxRecDepth 100000 in
set_option maxHeartbeats 1600000 in
theorem grow_any (k : Nat) (w : World) (h0 : 0 < k) (h60 : k ≤ 1000) :
    Calls Try.prog 91 #[.slice none 0 0, .int .i64 k] w fun e w' => ∃ g cap, e = .returned (.slice (some ⟨g, 0, none⟩) (0 : Nat) cap) ∧
      w'.ownsRow w.heap.size 60 2 (.slice (some ⟨g, 0, none⟩) (0 : Nat) cap) 0 [] ∧ Below w.heap.size w w' := by
  obtain ⟨i0, hi, hz0, hz1, hz2⟩ := info_parts infoPair
  have H := fun ty => Lib.run_append_nil_zeros (P := Try.prog) w 22 3 ty 60 i0 (.agg #[.int .i64 0, .int .i64 0]) .i64 .i64 Try.underlying22 Try.underlying3 hi hz0 k h0 (by rw [hz1]; omega) (by omega) (by rw [hz2]; omega)
  have hge := grownCap_ge w k 0 60
  have hle := grownCap_le_maxLen w k 0 60 (by unfold maxLen; omega)
  have hown : Hid ((w.drew.alloc (.cells (Builtin.zeroCells (Value.agg #[.int .i64 0, .int .i64 0]).cells k ++ Builtin.zeroCells (Value.agg #[.int .i64 0, .int .i64 0]).cells (grownCap w k 0 60 - k)) 60)).ownsRow w.heap.size 60 2 (.slice (some ⟨w.heap.size, 0, none⟩) (0 : Nat) (grownCap w k 0 60)) 0 []) := by
    refine World.ownsRow_made w.drew _ _ (Nat.le_refl _) hle ?_
    rw [Array.size_append, size_zeroCells, size_zeroCells]
    show k * 2 + (grownCap w k 0 60 - k) * 2 = _
    omega
  have hB : Hid (Below w.heap.size w (w.drew.alloc (.cells (Builtin.zeroCells (Value.agg #[.int .i64 0, .int .i64 0]).cells k ++ Builtin.zeroCells (Value.agg #[.int .i64 0, .int .i64 0]).cells (grownCap w k 0 60 - k)) 60))) := ((Below.refl _ w).drew).alloc (Nat.le_refl _) _
  generalize (w.drew.alloc (.cells (Builtin.zeroCells (Value.agg #[.int .i64 0, .int .i64 0]).cells k ++ Builtin.zeroCells (Value.agg #[.int .i64 0, .int .i64 0]).cells (grownCap w k 0 60 - k)) 60)) = W at *
  generalize grownCap w k 0 60 = cap at *
  replace H := Lib.hid H
  clear hi hz0 hz1 hz2 hle
  go_enter Try.func91, Try.ntmps91
  go_wp2_with (at_builtin; refine Lib.wpList_append_run _ rfl _ _ _ _ rfl _ _ rfl rfl _ _ (H.out _) ?_)
  go_ret
  exact ⟨_, cap, rfl, hown.out, hB.out⟩
end Go.Proofs.Ytflbaadfbjpakaa
