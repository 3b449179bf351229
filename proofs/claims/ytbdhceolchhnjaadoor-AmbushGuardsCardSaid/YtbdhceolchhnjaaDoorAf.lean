/- Layer 4, by the program: the spots of a set, counted; the free spots. -/
import Derived.Test.YtbdhceolchhnjaaDoorAe
namespace Go.Proofs.YtbdhceolchhnjaaDoor
open Go Go.RowKit

def o1 (x : Nat) : Nat := (x / 2 &&& 6148914691236517205) + (x &&& 6148914691236517205)
def o2 (x : Nat) : Nat := (x / 4 &&& 3689348814741910323) + (x &&& 3689348814741910323)
def o3 (x : Nat) : Nat := (x / 16 + x) &&& 1085102592571150095
def o4 (x : Nat) : Nat := x + x / 256
def o5 (x : Nat) : Nat := x + x / 65536
def o6 (x : Nat) : Nat := x + x / 4294967296
theorem o_count : ∀ x, x < 512 → o6 (o5 (o4 (o3 (o2 (o1 x))))) &&& 127 = cntF x 9 := by decide +kernel
theorem o1_le (x : Nat) : o1 x ≤ 2 * x := by have := Nat.and_le_left (n := x / 2) (m := 6148914691236517205); have := Nat.and_le_left (n := x) (m := 6148914691236517205); unfold o1; omega
theorem o2_le (x : Nat) : o2 x ≤ 2 * x := by have := Nat.and_le_left (n := x / 4) (m := 3689348814741910323); have := Nat.and_le_left (n := x) (m := 3689348814741910323); unfold o2; omega
theorem o3_le (x : Nat) : o3 x ≤ 2 * x := by have := Nat.and_le_left (n := x / 16 + x) (m := 1085102592571150095); unfold o3; omega
theorem o4_le (x : Nat) : o4 x ≤ 2 * x := by unfold o4; omega
theorem o5_le (x : Nat) : o5 x ≤ 2 * x := by unfold o5; omega
theorem o6_le (x : Nat) : o6 x ≤ 2 * x := by unfold o6; omega
theorem u64_div (x k : Nat) : ((x : Int) / (k : Int)) = ((x / k : Nat) : Int) := (Int.natCast_ediv x k).symm
theorem u64_add (a b : Nat) (h : a + b < 1000000) : IntKind.u64.wrap ((a : Int) + (b : Int)) = ((a + b : Nat) : Int) := by rw [IntKind.wrap_u64]; omega
set_option maxRecDepth 100000 in
set_option maxHeartbeats 2000000 in
theorem ones64_any (x : Nat) (hx : x < 512) (w : World) : Calls Tryd.prog 101 #[.int .u64 (x : Nat)] w (Only (.int .i64 (cntF x 9 : Nat)) w) := by
  have hfin := o_count x hx
  have l1 := o1_le x
  have l2 := o2_le (o1 x)
  have l3 := o3_le (o2 (o1 x))
  have l4 := o4_le (o3 (o2 (o1 x)))
  have l5 := o5_le (o4 (o3 (o2 (o1 x))))
  have l6 := o6_le (o5 (o4 (o3 (o2 (o1 x)))))
  -- the first line
  have a1 : (x : Int) / 2 = ((x / 2 : Nat) : Int) := u64_div x 2
  have a2 : bits .and .u64 ((x / 2 : Nat) : Int) 6148914691236517205 = ((x / 2 &&& 6148914691236517205 : Nat) : Int) := u64_and_nat (x / 2) 6148914691236517205 (by omega) (by omega)
  have a3 : bits .and .u64 (x : Int) 6148914691236517205 = ((x &&& 6148914691236517205 : Nat) : Int) := u64_and_nat x 6148914691236517205 (by omega) (by omega)
  have a4 : IntKind.u64.wrap (((x / 2 &&& 6148914691236517205 : Nat) : Int) + ((x &&& 6148914691236517205 : Nat) : Int)) = ((o1 x : Nat) : Int) := u64_add _ _ (by unfold o1 at l1; omega)
  obtain ⟨y1, h1⟩ : ∃ y, Hid (o1 x = y) := ⟨_, Lib.hid rfl⟩
  rw [h1.out] at l1 l2 l3 l4 l5 l6 a4 hfin
  generalize x / 2 &&& 6148914691236517205 = u1 at *
  generalize x &&& 6148914691236517205 = v1 at *
  generalize x / 2 = d1 at *
  have b1' : (y1 : Int) / 4 = ((y1 / 4 : Nat) : Int) := u64_div y1 4
  have b2' : bits .and .u64 ((y1 / 4 : Nat) : Int) 3689348814741910323 = ((y1 / 4 &&& 3689348814741910323 : Nat) : Int) := u64_and_nat (y1 / 4) 3689348814741910323 (by omega) (by omega)
  have b3' : bits .and .u64 (y1 : Int) 3689348814741910323 = ((y1 &&& 3689348814741910323 : Nat) : Int) := u64_and_nat y1 3689348814741910323 (by omega) (by omega)
  have b4' : IntKind.u64.wrap (((y1 / 4 &&& 3689348814741910323 : Nat) : Int) + ((y1 &&& 3689348814741910323 : Nat) : Int)) = ((o2 y1 : Nat) : Int) := u64_add _ _ (by unfold o2 at l2; omega)
  obtain ⟨y2, h2⟩ : ∃ y, Hid (o2 y1 = y) := ⟨_, Lib.hid rfl⟩
  rw [h2.out] at l2 l3 l4 l5 l6 b4' hfin
  generalize y1 / 4 &&& 3689348814741910323 = u2 at *
  generalize y1 &&& 3689348814741910323 = v2 at *
  generalize y1 / 4 = d2 at *
  have c1 : (y2 : Int) / 16 = ((y2 / 16 : Nat) : Int) := u64_div y2 16
  have c2 : IntKind.u64.wrap (((y2 / 16 : Nat) : Int) + (y2 : Int)) = ((y2 / 16 + y2 : Nat) : Int) := u64_add _ _ (by omega)
  have c3 : bits .and .u64 ((y2 / 16 + y2 : Nat) : Int) 1085102592571150095 = ((o3 y2 : Nat) : Int) := u64_and_nat (y2 / 16 + y2) 1085102592571150095 (by omega) (by omega)
  obtain ⟨y3, h3⟩ : ∃ y, Hid (o3 y2 = y) := ⟨_, Lib.hid rfl⟩
  rw [h3.out] at l3 l4 l5 l6 c3 hfin
  obtain ⟨s2, hs2⟩ : ∃ y, Hid (y2 / 16 + y2 = y) := ⟨_, Lib.hid rfl⟩
  rw [hs2.out] at c2 c3
  generalize y2 / 16 = d3 at *
  have e1 : (y3 : Int) / 256 = ((y3 / 256 : Nat) : Int) := u64_div y3 256
  have e2 : IntKind.u64.wrap ((y3 : Int) + ((y3 / 256 : Nat) : Int)) = ((o4 y3 : Nat) : Int) := u64_add _ _ (by omega)
  obtain ⟨y4, h4⟩ : ∃ y, Hid (o4 y3 = y) := ⟨_, Lib.hid rfl⟩
  rw [h4.out] at l4 l5 l6 e2 hfin
  generalize y3 / 256 = d4 at *
  have f1 : (y4 : Int) / 65536 = ((y4 / 65536 : Nat) : Int) := u64_div y4 65536
  have f2 : IntKind.u64.wrap ((y4 : Int) + ((y4 / 65536 : Nat) : Int)) = ((o5 y4 : Nat) : Int) := u64_add _ _ (by omega)
  obtain ⟨y5, h5⟩ : ∃ y, Hid (o5 y4 = y) := ⟨_, Lib.hid rfl⟩
  rw [h5.out] at l5 l6 f2 hfin
  generalize y4 / 65536 = d5 at *
  have g1 : (y5 : Int) / 4294967296 = ((y5 / 4294967296 : Nat) : Int) := u64_div y5 4294967296
  have g2 : IntKind.u64.wrap ((y5 : Int) + ((y5 / 4294967296 : Nat) : Int)) = ((o6 y5 : Nat) : Int) := u64_add _ _ (by omega)
  obtain ⟨y6, h6⟩ : ∃ y, Hid (o6 y5 = y) := ⟨_, Lib.hid rfl⟩
  rw [h6.out] at l6 g2 hfin
  generalize y5 / 4294967296 = d6 at *
  have k1 : IntKind.i64.wrap (y6 : Int) = (y6 : Int) := IntWalk.i64_in _ (by omega)
  have k2 : bits .and .i64 (y6 : Int) 127 = ((y6 &&& 127 : Nat) : Int) := i64_and_nat y6 127 (by omega) (by omega)
  rw [hfin] at k2
  clear l1 l2 l3 l4 l5 l6 hfin
  generalize cntF x 9 = r at *
  go_enter Tryd.func101, Tryd.ntmps101
  go_wp2
  go_ret
  exact Only.mk (by first | rfl | simp; done)
theorem ones_any (x : Nat) (hx : x < 512) (w : World) : Calls Tryd.prog 84 #[.int .u64 (x : Nat)] w (Only (.int .i64 (cntF x 9 : Nat)) w) := by
  have K := Lib.hid (ones64_any x hx w)
  go_enter Tryd.func84, Tryd.ntmps84
  go_wp2_with (go_at_call 101; refine K.out.mono ?_; rintro e w1 ⟨rfl, rfl⟩)
  go_ret
  exact Only.mk rfl
end Go.Proofs.YtbdhceolchhnjaaDoor
