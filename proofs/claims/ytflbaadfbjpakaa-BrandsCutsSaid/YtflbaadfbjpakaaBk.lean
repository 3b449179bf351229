/- Layer 2: IsBrand, Triangles and Round, by the program. -/
import Derived.Test.YtflbaadfbjpakaaBj
namespace Go.Proofs.Ytflbaadfbjpakaa
open Go Go.RowKit

theorem brandOf_yes (n : Int) (a : Option Addr) (m c : Nat) (L : List (Int × Int)) (w : World) (h : Prs w a L) (hl : L.length = m) (hcap : m ≤ c) (hB : BrandP n L) :
    Calls Try.prog 48 #[.int .i64 n, .slice a m c] w (Ret (.tuple #[.agg #[.int .i64 n, .slice a m c], .bool true]) w) := by
  have := brandOf_any n a m c L w h hl hcap (by have := hB.2.2.1; have := hB.2.1; omega)
  rwa [brandV_yes hB] at this
theorem brandOf_not (n : Int) (a : Option Addr) (m c : Nat) (L : List (Int × Int)) (w : World) (h : Prs w a L) (hl : L.length = m) (hcap : m ≤ c) (hm : m ≤ 4611686018427387904) (hB : ¬ BrandP n L) :
    Calls Try.prog 48 #[.int .i64 n, .slice a m c] w (Ret (.tuple #[.agg #[.int .i64 0, .slice none 0 0], .bool false]) w) := by
  have := brandOf_any n a m c L w h hl hcap hm
  rwa [brandV_no hB] at this
set_option maxRecDepth 100000 in
set_option maxHeartbeats 800000 in
theorem IsBrand_any (n : Int) (a : Option Addr) (m c : Nat) (L : List (Int × Int)) (w : World) (h : Prs w a L) (hl : L.length = m) (hcap : m ≤ c) (hm : m ≤ 4611686018427387904) :
    Calls Try.prog 18 #[.int .i64 n, .slice a m c] w (Ret (.bool (decide (BrandP n L))) w) := by
  by_cases hB : BrandP n L
  · have K := Lib.hid (brandOf_yes n a m c L w h hl hcap hB)
    rw [decide_eq_true hB]
    clear hB hl h
    go_enter Try.func18, Try.ntmps18
    go_wp2_with (go_at_call 48; refine K.out.mono ?_; rintro e w1 ⟨rfl, hb1⟩)
    go_ret
    exact Ret.mk rfl (nextB hb1 (b1 _ _))
  · have K := Lib.hid (brandOf_not n a m c L w h hl hcap hm hB)
    rw [decide_eq_false hB]
    clear hB hl h
    go_enter Try.func18, Try.ntmps18
    go_wp2_with (go_at_call 48; refine K.out.mono ?_; rintro e w1 ⟨rfl, hb1⟩)
    go_ret
    exact Ret.mk rfl (nextB hb1 (b1 _ _))
/-- What Triangles returns of a brand. -/
def GotT (n : Nat) (L : List (Int × Int)) (w : World) (e : Ending) (w' : World) : Prop :=
  ∃ a c, e = .returned (.tuple #[.slice a (tris n L).length c, .int .i64 0]) ∧ w'.ownsRow w.heap.size 29 3 (.slice a (tris n L).length c) (tris n L).length (cT (tris n L)) ∧ Trs w' a (tris n L) ∧ (tris n L).length ≤ c ∧ Below w.heap.size w w'
set_option maxRecDepth 100000 in
set_option maxHeartbeats 800000 in
theorem Triangles_no (n : Int) (a : Option Addr) (m c : Nat) (L : List (Int × Int)) (w : World) (h : Prs w a L) (hl : L.length = m) (hcap : m ≤ c) (hm : m ≤ 4611686018427387904) (hB : ¬ BrandP n L) :
    Calls Try.prog 20 #[.int .i64 n, .slice a m c] w (Ret (.tuple #[.slice none 0 0, .int .i64 2]) w) := by
  have K := Lib.hid (brandOf_not n a m c L w h hl hcap hm hB)
  clear hB hl h
  go_enter Try.func20, Try.ntmps20
  go_wp2_with (go_at_call 48; refine K.out.mono ?_; rintro e w1 ⟨rfl, hb1⟩)
  go_ret2
  exact Ret.mk rfl (nextB hb1 (b1 _ _))
set_option maxRecDepth 100000 in
set_option maxHeartbeats 800000 in
theorem Triangles_yes (n : Nat) (a : Option Addr) (m c : Nat) (L : List (Int × Int)) (w : World) (h : Prs w a L) (hl : L.length = m) (hcap : m ≤ c) (hB : BrandP n L) :
    Calls Try.prog 20 #[.int .i64 n, .slice a m c] w (GotT n L w) := by
  have K := Lib.hid (brandOf_yes n a m c L w h hl hcap hB)
  have T : ∀ W, Below w.heap.size w W → _ := fun W hW => triangles_any n a m c L W (h.next hW) hl (by have := hB.2.2.1; have := hB.2.1; omega) (by have := hB.1; omega) (by have := hB.2.1; omega)
  replace T := Lib.hid T
  clear hB hl h
  go_enter Try.func20, Try.ntmps20
  go_wp2_with (first
    | (go_at_call 48; refine K.out.mono ?_; rintro e w1 ⟨rfl, hb1⟩)
    | (go_at_call 52; refine (T.out _ (nextB hb1 (b1 _ _))).mono ?_; rintro e w2 ⟨v, rfl, hown, hb2⟩; replace hb2 := nextB (nextB hb1 (b1 _ _)) hb2; have ho := Lib.hid hown; obtain ⟨a1, c1, rfl, hc1, hT1⟩ := own_trs hown))
  go_ret2
  exact ⟨a1, c1, rfl, own_base ho.out (by have := hb1.size; simp; omega), hT1, hc1, hb2⟩
end Go.Proofs.Ytflbaadfbjpakaa
