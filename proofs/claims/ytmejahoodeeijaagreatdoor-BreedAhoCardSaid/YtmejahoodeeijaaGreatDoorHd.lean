/- Layer 5, by the program: IsTree. -/
import Derived.Test.YtmejahoodeeijaaGreatDoorHa
namespace Go.Proofs.YtmejahoodeeijaaGreatDoor
open Go Go.RowKit

/-- What IsTree says. -/
noncomputable def isE (n : Int) (l : List UInt8) : Bool := numB n && (trO n.toNat l).isSome
theorem IsTree_any (n : Int) (l : List UInt8) (w : World) (hT : Tab w) : Calls Tryz.prog 16 #[.int .i64 n, strV l] w (Ret (.bool (isE n l)) w) := by
  unfold isE
  cases hn : numB n
  · have K := Lib.hid (treeOf_bad n l w hn)
    clear hn hT
    go_enter Tryz.func16, Tryz.ntmps16
    go_wp2_with (go_at_call 44; refine K.out.mono ?_; rintro e w1 ⟨rfl, rfl⟩)
    go_ret
    exact Ret.mk rfl (Below.refl _ _)
  · obtain ⟨m, rfl, h1, h8⟩ := numB_nat hn
    rw [Int.toNat_natCast]
    have K := Lib.hid (treeO_any m l w h1 h8 hT)
    clear hn hT
    generalize trO m l = o at *
    go_enter Tryz.func16, Tryz.ntmps16
    go_wp2_with fail
    refine K.out.mono ?_
    rintro e w2 ⟨hb2, ⟨t, v, rfl, _, _, rfl⟩ | ⟨rfl, rfl⟩⟩
    all_goals
      go_wp2
      go_ret
      exact Ret.mk rfl hb2
end Go.Proofs.YtmejahoodeeijaaGreatDoor
