/- BrandsCounts: Count returns the number, or the error, of the specification: the walk. -/
import Derived.Test.YtflbaadfbjpakaaCi
namespace Go.Proofs.Ytflbaadfbjpakaa
open Go Go.RowKit

set_option maxRecDepth 100000 in
set_option maxHeartbeats 1600000 in
theorem counts_any (n : Int) (w : World) : Calls Try.prog 9 #[.int .i64 n] w (Ret (.bool true) w) := by
  by_cases h : n < 3 ∨ 12 < n
  · have C1 := Lib.hid (fun W => Count_out n W h)
    have C2 := Lib.hid (fun W => refCount_out n W h)
    clear h
    go_enter Try.func9, Try.ntmps9
    go_wp2_with (first
      | (go_at_call 42; refine (C1.out _).mono ?_; rintro e w1 ⟨rfl, rfl⟩)
      | (go_at_call 43; refine (C2.out _).mono ?_; rintro e w1 ⟨rfl, rfl⟩)
      | (go_at_call 17; refine (alive_any _).mono ?_; rintro e w2 ⟨rfl, hb2⟩))
    go_ret
    exact Ret.mk rfl hb2
  · obtain ⟨k, rfl⟩ : ∃ k : Nat, n = k := ⟨n.toNat, by omega⟩
    have C1 := Lib.hid (fun W => Count_in k W (by omega) (by omega))
    have C2 := Lib.hid (fun W => refCount_in k W (by omega) (by omega))
    clear h
    generalize catT (k - 2) = ct at *
    go_enter Try.func9, Try.ntmps9
    go_wp2_with (first
      | (go_at_call 42; refine (C1.out _).mono ?_; rintro e w1 ⟨rfl, rfl⟩)
      | (go_at_call 43; refine (C2.out _).mono ?_; rintro e w1 ⟨rfl, hb1⟩)
      | (go_at_call 17; refine (alive_any _).mono ?_; rintro e w2 ⟨rfl, hb2⟩))
    go_ret
    exact Ret.mk rfl (nextB hb1 hb2)
end Go.Proofs.Ytflbaadfbjpakaa
