/- Layer 5, by the specification: the other two triples of the same beasts; a list and one more. -/
import Derived.Test.YtfdaljekehkkaaaGreatDoorQf
namespace Go.Proofs.YtfdaljekehkkaaaGreatDoor
open Go Go.RowKit

def oth0 (t : T3) : T3 := (min t.1 t.2.2, max t.1 t.2.2, t.2.1)
def oth1 (t : T3) : T3 := (min t.2.1 t.2.2, max t.2.1 t.2.2, t.1)
/-- Two triples as an array. -/
abbrev o2V (t u : T3) : Value := .agg #[.int .i64 t.1, .int .i64 t.2.1, .int .i64 t.2.2, .int .i64 u.1, .int .i64 u.2.1, .int .i64 u.2.2]
set_option maxRecDepth 100000 in
set_option maxHeartbeats 2000000 in
theorem refOthers_any (t : T3) (w : World) : Calls Tryz.prog 14 #[t3V t] w (Ret (o2V (oth0 t) (oth1 t)) w) := by
  obtain ⟨a, b, c⟩ := t
  have bA := b2 w (.cells #[.int .i64 a, .int .i64 b, .int .i64 c] 36) (.cells #[.int .i64 (min a c), .int .i64 (max a c), .int .i64 b, .int .i64 (min b c), .int .i64 (max b c), .int .i64 a] 38)
  have hA := Blk.new (w.alloc (.cells #[.int .i64 a, .int .i64 b, .int .i64 c] 36)) 38 #[.int .i64 (min a c), .int .i64 (max a c), .int .i64 b, .int .i64 (min b c), .int .i64 (max b c), .int .i64 a]
  rw [World.size_alloc] at hA
  have r0 := hA.c 0 rfl
  have r1 := hA.c 1 rfl
  have r2 := hA.c 2 rfl
  have r3 := hA.c 3 rfl
  have r4 := hA.c 4 rfl
  have r5 := hA.c 5 rfl
  unfold oth0 oth1
  dsimp only
  go_enter Tryz.func14, Tryz.ntmps14
  go_wp2
  refine bodyPost_ret (v := .agg #[.int .i64 (min a c), .int .i64 (max a c), .int .i64 b, .int .i64 (min b c), .int .i64 (max b c), .int .i64 a]) (by simp [results, Tryz.results14, go_sem, r0, r1, r2, r3, r4, r5]) rfl ?_
  exact Ret.mk rfl bA
theorem trips_one {W : World} {b : Nat} {x : T3} (h : Blk W b 36 #[.int .i64 x.1, .int .i64 x.2.1, .int .i64 x.2.2]) : Trips W (some ⟨b, 0, none⟩) [x] := .inr ⟨b, 0, rfl, fun i hi => by
  have : i = 0 := by simpa using hi
  subst this
  exact ⟨h.c 0 rfl, h.c 1 rfl, h.c 2 rfl⟩⟩
set_option maxRecDepth 100000 in
set_option maxHeartbeats 2000000 in
theorem refWith_any (a : Option Addr) (l c : Nat) (L : List T3) (x : T3) (w : World) (h : Trips w a L) (hl : L.length = l) (hl9 : l ≤ 900) (hnil : a = none → c = 0) :
    Calls Tryz.prog 26 #[.slice a l c, t3V x] w (NewT3 (L ++ [x]) w) := by
  have bA := b1 w (.cells #[.int .i64 x.1, .int .i64 x.2.1, .int .i64 x.2.2] 36)
  have hA := Blk.new w 36 #[.int .i64 x.1, .int .i64 x.2.1, .int .i64 x.2.2]
  have hI := Lib.hid (h.next bA)
  have hs0 : w.heap.size + 1 ≤ (w.alloc (.cells #[.int .i64 x.1, .int .i64 x.2.1, .int .i64 x.2.2] 36)).heap.size := hA.lt
  replace hl := Lib.hid hl
  replace hA := Lib.hid hA
  replace bA := Lib.hid bA
  clear h
  go_enter Tryz.func26, Tryz.ntmps26
  go_wp2_with (first
    | (at_builtin; refine wpList_copyT rfl _ _ rfl (w.heap.size + 1) _ rfl 0 [] (World.ownsRow_nil _ _ _ _) rfl a l c L rfl hI.out hl.out hnil (by omega) hs0 ?_; intro v2 w2 ho2 hg2; rw [Nat.zero_add, List.nil_append] at ho2; have hA2 : Blk w2 w.heap.size 36 #[.int .i64 x.1, .int .i64 x.2.1, .int .i64 x.2.2] := (hg2.block _ hA.out.lt (fun k => by cases k)).trans hA.out; have B2 := bA.out.grown hg2 (by omega) (fun k hk => by cases hk); have x0 := hA2.c 0 rfl; have x1 := hA2.c 1 rfl; have x2 := hA2.c 2 rfl)
    | (at_builtin; refine wpList_copyT rfl _ _ rfl (w.heap.size + 1) _ rfl l L (ho2.alloc (.cells #[.int .i64 x.1, .int .i64 x.2.1, .int .i64 x.2.2] 36)) hl.out (some ⟨w2.heap.size, 0, none⟩) 1 1 [x] rfl (trips_one (Blk.new w2 36 #[.int .i64 x.1, .int .i64 x.2.1, .int .i64 x.2.2])) rfl (fun h => by cases h) (by omega) (by have := hA2.lt; simp; omega) ?_; intro v3 w3 ho3 hg3))
  go_ret
  have hq := ho2.lt
  refine ⟨v3, rfl, ?_, ?_⟩
  · rw [List.length_append, hl.out, List.length_singleton]
    exact owns_base ho3 (Nat.le_succ _)
  · have hb2 := B2.size
    exact (B2.alloc hb2 _).grown hg3 (by simp; omega) (fun k hk => by have := (hq k hk).1; omega)
end Go.Proofs.YtfdaljekehkkaaaGreatDoor
