/- Layer 1: a small triangle is not cut. -/
import Derived.Test.YtnjegnlfdbbleaaSd
namespace Go.Proofs.Ytnjegnlfdbbleaa
open Go Go.RowKit Go.Shelf

/-- A slice's length. -/
def sliceLen : Value → Nat | .slice _ n _ => n | _ => 0
theorem box6_news {w : World} {g : Nat} {a b c : Int × Int} (h : Box6 w g a b c) : ∀ j u, (cellsT a b c)[j]? = some u → w.cell? (Addr.add ⟨g, 0, none⟩ j) = some u := by
  intro j u hj
  have hl : j < 6 := (List.getElem?_eq_some_iff.1 hj).1
  have ha : Addr.add ⟨g, 0, none⟩ j = ⟨g, j, none⟩ := by simp [Addr.add]; omega
  rw [ha]
  clear ha
  obtain ⟨⟨t0, t1⟩, ⟨t2, t3⟩, ⟨t4, t5⟩⟩ := h
  have hj' : j = 0 ∨ j = 1 ∨ j = 2 ∨ j = 3 ∨ j = 4 ∨ j = 5 := by omega
  rcases hj' with rfl | rfl | rfl | rfl | rfl | rfl <;> (simp at hj; subst hj; assumption)
theorem cell_six_new' (w : World) {B : Nat} (a b c : Int × Int) (t : TypeId) (hB : B = w.heap.size) : ∀ j u, (cellsT a b c)[j]? = some u →
    (w.alloc (.cells #[.int .i64 a.1, .int .i64 a.2, .int .i64 b.1, .int .i64 b.2, .int .i64 c.1, .int .i64 c.2] t)).cell? (Addr.add ⟨B, 0, none⟩ j) = some u := by subst hB; exact cell_six_new w a b c t
theorem owns_six {w : World} {base g cap : Nat} {e : TypeId} {a b c : Int × Int} (h : w.ownsRow base e 6 (.slice (some ⟨g, 0, none⟩) 1 cap) 1 (cellsT a b c)) : Box6 w g a b c := by
  have q : ∀ j, j < 6 → w.cell? ⟨g, j, none⟩ = (cellsT a b c)[j]? := fun j hj => h.cellAt j (by omega)
  exact ⟨⟨q 0 (by omega), q 1 (by omega)⟩, ⟨q 2 (by omega), q 3 (by omega)⟩, ⟨q 4 (by omega), q 5 (by omega)⟩⟩

set_option maxRecDepth 100000 in
set_option maxHeartbeats 1600000 in
theorem cloneT_one (g cap : Nat) (a b c : Int × Int) (w : World) (h : Box6 w g a b c) :
    Calls Try.prog 71 #[.slice (some ⟨g, 0, none⟩) 1 cap] w fun e w' => Below w.heap.size w w' ∧ ∃ g cap, e = .returned (.slice (some ⟨g, 0, none⟩) 1 cap) ∧
      w'.ownsRow w.heap.size 79 6 (.slice (some ⟨g, 0, none⟩) 1 cap) 1 (cellsT a b c) := by
  obtain ⟨i0, hi, hz0, hz1, hz2⟩ := info_parts infoTri
  have G0 := Lib.hid hi
  have G1 := Lib.hid hz0
  have G2 := Lib.hid hz1
  have G3 := Lib.hid hz2
  clear hi hz0 hz1 hz2
  have hcc := Lib.hid (box6_news h)
  have qT : ∀ (w : World) (a : Option Addr) (n c : Nat), (binOp .eql 76 (.slice a n c) (.slice none 0 0)).run Try.prog w = .ok (.bool a.isNone) w := fun w a n c => run_eql_slice_nil w _ 79 a n c Try.underlying76
  go_enter Try.func71, Try.ntmps71
  go_wp2_with (at_builtin; refine wpList_append_own _ rfl _ _ 76 rfl w.heap.size 79 i0 (.agg #[.int .i64 0, .int .i64 0, .int .i64 0, .int .i64 0, .int .i64 0, .int .i64 0]) 6 48 Try.underlying76 G0.out G1.out G2.out G3.out rfl (by decide) _ _ _ rfl (World.ownsRow_made w #[] 0 (Nat.le_refl _) (by decide) rfl) ⟨g, 0, none⟩ 1 cap (cellsT a b c) rfl rfl (fun j u hj => cellB (b1 _ _) (hcc.out j u hj)) (one_six _ _ _) (by decide) (by decide) (by simp) ?_; intro v' w2 hown hgrow _; rw [Nat.zero_add, List.nil_append] at hown; obtain ⟨g', cap', rfl⟩ := ownsRow_succ hown)
  go_ret
  exact ⟨((Below.refl _ _).alloc (Nat.le_refl _) _).grown hgrow (by simp) (fun _ h => by cases h; exact Nat.le_refl _), g', cap', rfl, hown⟩

set_option maxRecDepth 100000 in
set_option maxHeartbeats 4000000 in
theorem smaller_one (g cap : Nat) (a b c : Int × Int) (x : Option Addr) (n cap2 : Nat) (p : Nat → Int × Int) (w : World) (ha : Sm 1048576 a) (hb : Sm 1048576 b) (hc : Sm 1048576 c) (hm : n ≤ 4611686018427387904) (h : Pts w x n p)
    (hs : ∀ i, i < n → Sm 1048576 (p i)) (hno : ∀ i, i < n → ¬ OtherP a b c (p i)) (hT : Box6 w g a b c) :
    Calls Try.prog 65 #[.slice (some ⟨g, 0, none⟩) 1 cap, .slice x n cap2] w fun e w' => Below w.heap.size w w' ∧ ∃ g cap, e = .returned (.slice (some ⟨g, 0, none⟩) 1 cap) ∧ Box6 w' g a b c := by
  obtain ⟨i0, hi, hz0, hz1, hz2⟩ := info_parts infoTri
  have G0 := Lib.hid hi
  have G1 := Lib.hid hz0
  have G2 := Lib.hid hz1
  have G3 := Lib.hid hz2
  clear hi hz0 hz1 hz2
  have H := Lib.hid (cloneT_one g cap a b c w hT)
  have h := Lib.hid h
  have hs := Lib.hid hs
  have hno := Lib.hid hno
  clear hT
  go_enter Try.func65, Try.ntmps65
  go_wp2_with (go_at_call 71; refine H.out.mono ?_; rintro e w1 ⟨hb1, g1, cap1, rfl, hown⟩; have T1 := owns_six hown; clear hown)
  go_loopw [5, 6] (fun o r wr => Below w.heap.size w wr ∧ ((o = .slice (some ⟨g1, 0, none⟩) 1 cap1 ∧ r = .slice none 0 0 ∧ Box6 wr g1 a b c) ∨
      (o = .slice (some ⟨g1, 0, none⟩) (0 : Nat) cap1 ∧ ∃ g2 cap2, r = .slice (some ⟨g2, 0, none⟩) 1 cap2 ∧ Box6 wr g2 a b c))) (fun o _ _ => sliceLen o)
  case atStart => exact ⟨hb1, .inl ⟨rfl, rfl, T1⟩⟩
  case round =>
    obtain ⟨B0, ⟨rfl, rfl, T⟩ | ⟨rfl, g2, cap2', rfl, T⟩⟩ := hrel
    · obtain ⟨⟨t0, t1⟩, ⟨t2, t3⟩, ⟨t4, t5⟩⟩ := id T
      go_wp2_with fail
      refine calls_at (F := fun W => Below wr.heap.size wr W ∧ Box6 W wr.heap.size a b c) ⟨b1 _ _, ⟨⟨by go_simp, by go_simp⟩, ⟨by go_simp, by go_simp⟩, ⟨by go_simp, by go_simp⟩⟩⟩ ?_
      rintro W ⟨C0, T7⟩
      refine (other_no a b c x n cap2 p W ha hb hc hm ((h.out.next B0).next C0) hs.out hno.out).mono ?_
      rintro e w2 ⟨rfl, hb2⟩
      dsimp only
      replace B0 := nextB B0 (nextB C0 hb2)
      replace T7 := T7.next hb2
      clear C0 hb2 t0 t1 t2 t3 t4 t5 T
      obtain ⟨⟨t0, t1⟩, ⟨t2, t3⟩, ⟨t4, t5⟩⟩ := id T7
      have hlt : wr.heap.size < w2.heap.size := block_lt_of_cell t0
      go_wp2_with (at_builtin; refine wpList_append_own _ rfl _ _ 76 rfl w.heap.size 79 i0 (.agg #[.int .i64 0, .int .i64 0, .int .i64 0, .int .i64 0, .int .i64 0, .int .i64 0]) 6 48 Try.underlying76 G0.out G1.out G2.out G3.out rfl (by decide) _ _ _ rfl (World.ownsRow_nil _ _ _ _) ⟨w2.heap.size + 1, 0, none⟩ 1 1 (cellsT a b c) rfl rfl (cell_six_new' _ a b c _ (by simp)) (one_six _ _ _) (by decide) (by decide) (by have := B0.size; simp; omega) ?_; intro v' w3 hown3 hgrow _; rw [Nat.zero_add, List.nil_append] at hown3; obtain ⟨g', cap', rfl⟩ := ownsRow_succ hown3)
      go_roundw
      case rel => exact ⟨((B0.alloc B0.size _).alloc (by have := B0.size; simp; omega) _).grown hgrow (by have := B0.size; simp; omega) (fun _ h => by cases h), .inr ⟨rfl, g', cap', rfl, owns_six hown3⟩⟩
      case measure => simp [sliceLen]
    · go_wp2
      go_ret
      exact ⟨B0, g2, cap2', rfl, T⟩
end Go.Proofs.Ytnjegnlfdbbleaa
