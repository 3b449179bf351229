/- Layer 1: the points of a pen. -/
import Derived.Test.YtnjegnlfdbbleaaSe
namespace Go.Proofs.Ytnjegnlfdbbleaa
open Go Go.RowKit Go.Shelf

/-- The least numbers of the first k points, and the greatest. -/
def loF (p : Nat → Int × Int) : Nat → Int × Int
  | 0 => p 0
  | k + 1 => (min (loF p k).1 (p k).1, min (loF p k).2 (p k).2)
def hiF (p : Nat → Int × Int) : Nat → Int × Int
  | 0 => p 0
  | k + 1 => (max (hiF p k).1 (p k).1, max (hiF p k).2 (p k).2)
theorem lo_sm {n : Nat} {p : Nat → Int × Int} (h1 : 1 ≤ n) (hs : ∀ i, i < n → Sm 50 (p i)) : ∀ k, k ≤ n → Sm 50 (loF p k) ∧ Sm 50 (hiF p k) := by
  intro k
  induction k with
  | zero => exact fun _ => ⟨hs 0 (by omega), hs 0 (by omega)⟩
  | succ k ih =>
    intro hk
    obtain ⟨h2, h3⟩ := ih (by omega)
    have h4 := hs k (by omega)
    unfold Sm at *
    simp only [loF, hiF]
    omega
/-- The cells of a list of points. -/
def ptsCells (qs : List (Int × Int)) : List Value := qs.flatMap fun q => [.int .i64 q.1, .int .i64 q.2]
theorem ptsCells_snoc (qs : List (Int × Int)) (q : Int × Int) : ptsCells (qs ++ [q]) = ptsCells qs ++ [.int .i64 q.1, .int .i64 q.2] := by simp [ptsCells]
theorem ptsCells_of (qs : List (Int × Int)) : ptsCells qs = cellsOf (fun i => qs.getD i (0, 0)) qs.length := by
  have e : qs = (List.range qs.length).map fun i => qs.getD i (0, 0) := by
    apply List.ext_getElem
    · simp
    · intro i h1 h2; simp [h1]
  unfold ptsCells cellsOf
  conv => lhs; rw [e]
  rw [List.flatMap_map]
theorem own_nil {v : Value} {g : Nat} (e : v = .slice none 0 0) : ¬ v.ownBlock = some g := by subst e; simp [Value.ownBlock]
theorem own_some {v : Value} {g g' n cap : Nat} (e : v = .slice (some ⟨g', 0, none⟩) n cap) (h : v.ownBlock = some g) : g' = g := by subst e; simpa [Value.ownBlock] using h
/-- What is said of the points: in the box, and not outside. -/
def PtsOk (n : Nat) (p : Nat → Int × Int) (qs : List (Int × Int)) : Prop := ∀ s ∈ qs, (loF p n).1 ≤ s.1 ∧ s.1 ≤ (hiF p n).1 ∧ (loF p n).2 ≤ s.2 ∧ s.2 ≤ (hiF p n).2 ∧ 0 ≤ whereI n p s

set_option maxRecDepth 100000 in
set_option maxHeartbeats 8000000 in
theorem points_any (b off n c : Nat) (p : Nat → Int × Int) (w : World) (h1 : 1 ≤ n) (h10 : n ≤ 10) (hs : ∀ i, i < n → Sm 50 (p i))
    (hc : ∀ i, i < n → w.cell? ⟨b, off + i * 2, none⟩ = some (.int .i64 (p i).1) ∧ w.cell? ⟨b, off + i * 2 + 1, none⟩ = some (.int .i64 (p i).2)) :
    Calls Try.prog 68 #[.slice (some ⟨b, off, none⟩) n c] w fun e w' => Below w.heap.size w w' ∧ ∃ x cap qs, e = .returned (.slice x (List.length qs) cap) ∧ Pts w' x qs.length (fun i => qs.getD i (0, 0)) ∧ PtsOk n p qs ∧ qs.length ≤ 10201 := by
  obtain ⟨i0, hi, hz0, hz1, hz2⟩ := info_parts infoSpot
  have G0 := Lib.hid hi
  have G1 := Lib.hid hz0
  have G2 := Lib.hid hz1
  have G3 := Lib.hid hz2
  clear hi hz0 hz1 hz2
  have hsm := Lib.hid (lo_sm h1 hs)
  obtain ⟨e0, e1⟩ := hc 0 (by omega)
  simp only [Nat.zero_mul, Nat.add_zero] at e0 e1
  have hb : b < w.heap.size := block_lt_of_cell e0
  have hn1 : 0 < n := by omega
  have hb1 : b < w.heap.size + 1 := by omega
  have hc := Lib.hid hc
  have hs := Lib.hid hs
  have hn0 : (0 : Int) < (n : Int) := by omega
  go_enter Try.func68, Try.ntmps68
  go_wp2
  go_region
  · clear e0 e1
    go_wp2
    go_loopw [19] (fun i wr => ∃ k : Nat, k ≤ n ∧ i = .int .i64 k ∧ Below w.heap.size w wr ∧ BoxS wr (w.heap.size) (loF p k) ∧ BoxS wr (w.heap.size + 1) (hiF p k)) (fun i _ => n - (intOf i).toNat)
    case atStart =>
      refine ⟨0, by omega, rfl, (b2 _ _ _).drew, ?_, ?_⟩
      all_goals first | exact BoxS.ext (show BoxS (w.alloc _) w.heap.size (p 0) from heap_alloc_new w _) (b1 _ _).drew | exact BoxS.ext (by have h := heap_alloc_new (w.alloc (.cells #[.int .i64 (p 0).1, .int .i64 (p 0).2] 65)) (.cells #[.int .i64 (p 0).1, .int .i64 (p 0).2] 65); rw [World.size_alloc] at h; exact h) (Below.refl _ _).drew
    case round =>
      obtain ⟨k, hk, rfl, B0, L, U⟩ := hrel
      have l0 := L.c0
      have l1 := L.c1
      have l2 := L.fr 0
      have l3 := L.fr 1
      have u0 := U.c0
      have u1 := U.c1
      have u2 := U.fr 0
      have u3 := U.fr 1
      by_cases hlt : k < n
      · have hi0 : (0 : Int) ≤ (k : Int) := by omega
        have hi1 : (k : Int) < (n : Int) := by omega
        obtain ⟨f0, f1⟩ := hc.out k hlt
        replace f0 := cellB B0 f0
        replace f1 := cellB B0 f1
        have hL := L.lt
        have hU := U.lt
        have hbr : b < wr.heap.size := block_lt_of_cell f0
        have eL : Hid (loF p (k + 1) = (if (p k).1 < (loF p k).1 then (p k).1 else (loF p k).1, if (p k).2 < (loF p k).2 then (p k).2 else (loF p k).2)) := Lib.hid (by simp only [loF]; congr 1 <;> omega)
        have eU : Hid (hiF p (k + 1) = (if (hiF p k).1 < (p k).1 then (p k).1 else (hiF p k).1, if (hiF p k).2 < (p k).2 then (p k).2 else (hiF p k).2)) := Lib.hid (by simp only [hiF]; congr 1 <;> omega)
        go_wp2
        go_roundw
        case rel => exact ⟨k + 1, by omega, by go_num, ((((B0.setCell (p := ⟨_, 0, none⟩) (by simp) _).setCell (p := ⟨_, 1, none⟩) (by simp) _).setCell (p := ⟨_, 0, none⟩) (by simp) _).setCell (p := ⟨_, 1, none⟩) (by simp) _).alloc (by have := B0.size; simp [World.setCell]; omega) _, by rw [eL.out]; exact (((L.set _ _).other (by omega) _).other (by omega) _).ext (b1 _ _), by rw [eU.out]; exact (((U.other (by omega) _).other (by omega) _).set _ _).ext (b1 _ _)⟩
        case measure => simp [intOf]; omega
      · obtain rfl : k = n := by omega
        have hlh := hsm.out k (Nat.le_refl _)
        obtain ⟨hl50, hu50⟩ := hlh
        unfold Sm at hl50 hu50
        generalize wr = w1 at *
        have hLt := L.lt
        have hUt := U.lt
        go_wp2
        go_loopw [7, 8] (fun v x wx => ∃ (X : Int) (qs : List (Int × Int)), x = .int .i64 X ∧ (loF p k).1 ≤ X ∧ X ≤ 51 ∧ Below w1.heap.size w1 wx ∧ wx.ownsRow w1.heap.size 65 2 v qs.length (ptsCells qs) ∧ PtsOk k p qs ∧ (qs.length : Int) ≤ (X + 50) * 101) (fun _ x _ => (51 - intOf x).toNat)
        case atStart => exact ⟨_, [], rfl, Int.le_refl _, by omega, Below.refl _ _, World.ownsRow_nil _ _ _ _, (fun s hs => by cases hs), by simp; omega⟩
        case round =>
          clear l0 l1 l2 l3 u0 u1 u2 u3
          obtain ⟨X, qs, rfl, hX0, hX1, B1, hown, hok, hlen⟩ := hrel
          have L1 := L.ext B1
          have U1 := U.ext B1
          have l0 := L1.c0
          have l1 := L1.c1
          have u0 := U1.c0
          have u1 := U1.c1
          have hok := Lib.hid hok
          by_cases hX : X ≤ (hiF p k).1
          · go_wp2
            go_loopw [7, 9] (fun v y wy => ∃ (Y : Int) (qs : List (Int × Int)), y = .int .i64 Y ∧ (loF p k).2 ≤ Y ∧ Y ≤ 51 ∧ Below w1.heap.size w1 wy ∧ wy.ownsRow w1.heap.size 65 2 v qs.length (ptsCells qs) ∧ PtsOk k p qs ∧ (qs.length : Int) ≤ (X + 50) * 101 + (Y + 50)) (fun _ y _ => (51 - intOf y).toNat)
            case atStart => exact ⟨_, qs, rfl, Int.le_refl _, by omega, B1, hown, hok.out, by omega⟩
            case round =>
              clear l0 l1 u0 u1 L1 U1 B1 hown hok hlen
              obtain ⟨Y, qs, rfl, hY0, hY1, B1, hown, hok, hlen⟩ := hrel
              have L1 := L.ext B1
              have U1 := U.ext B1
              have u0 := U1.c0
              have u1 := U1.c1
              have hok := Lib.hid hok
              by_cases hY : Y ≤ (hiF p k).2
              · go_wp2_with fail
                refine calls_at (F := fun W => Below wr.heap.size wr W ∧ Box2 W wr.heap.size X Y) ⟨Go.Proofs.Ytnjegnlfdbbleaa.b1 _ _, ⟨by go_simp, by go_simp⟩⟩ ?_
                rintro W ⟨C0, P⟩
                refine (where_any b off k c p X Y W h1 h10 hs.out (by unfold Sm; simp only; omega) (pts_next (nextB B0 (nextB B1 C0)) hc.out)).mono ?_
                rintro e w3 ⟨rfl, hb3⟩
                dsimp only
                have B3 := nextB B1 (nextB C0 hb3)
                have hown3 := owns_next (owns_next hown C0) hb3
                replace P := P.next hb3
                have hlt3 : wr.heap.size < w3.heap.size := block_lt_of_cell P.1
                have U3 := U.ext B3
                clear C0 hb3 u0 u1 U1 B1 hown
                have u0 := U3.c0
                have u1 := U3.c1
                obtain ⟨p0, p1⟩ := id P
                have hbd : (qs.length : Int) ≤ 10201 := by omega
                by_cases hV : 0 ≤ whereI k p (X, Y)
                · have hV' := Lib.hid hV
                  go_wp2_with (at_builtin; refine wpList_append_own _ rfl _ _ 53 rfl w1.heap.size 65 i0 (.agg #[.int .i64 0, .int .i64 0]) 2 16 Try.underlying53 G0.out G1.out G2.out G3.out rfl (by decide) _ _ _ rfl (hown3.alloc _) ⟨w3.heap.size, 0, none⟩ 1 1 [.int .i64 X, .int .i64 Y] rfl rfl (cell_two_new _ _ _ _) (by simp [Value.oneCell']) (by unfold maxLen; omega) (by omega) (by have := B3.size; simp; omega) ?_; intro v' w5 hown5 hgrow _; have hv5 := hown5)
                  go_roundw
                  case rel => exact ⟨Y + 1, qs ++ [(X, Y)], by go_num, by omega, by omega, (B3.alloc B3.size _).grown hgrow (by have := B3.size; simp; omega) (fun g h => by
                    rcases hown3.2 with ⟨e, _⟩ | ⟨g', _, _, e, hbg, _⟩
                    · replace h : Value.ownBlock _ = some g := h
                      change Value.ownBlock _ = some g at h
                      exact absurd h (own_nil e)
                    · exact own_some e h ▸ hbg), by rw [List.length_append, ptsCells_snoc]; exact hown5, fun s hs => (List.mem_append.1 hs).elim (hok.out s) (fun e => by simp at e; subst e; exact ⟨hX0, hX, hY0, hY, hV'.out⟩), by simp; omega⟩
                  case measure => simp [intOf]; omega
                · go_wp2
                  go_roundw
                  case rel => exact ⟨Y + 1, qs, by go_num, by omega, by omega, B3, hown3, hok.out, by omega⟩
                  case measure => simp [intOf]; omega
              · go_wp2
                go_roundw
                case rel => exact ⟨X + 1, qs, by go_num, by omega, by omega, B1, hown, hok.out, by omega⟩
                case measure => simp [intOf]; omega
          · have hl2 : qs.length ≤ 10201 := by omega
            rcases id hown.2 with ⟨rfl, h0⟩ | ⟨g, cap, _, rfl, _⟩
            · have hq : qs = [] := List.eq_nil_of_length_eq_zero h0
              subst hq
              go_wp2
              go_ret
              exact ⟨nextB B0 B1, none, 0, [], rfl, .inl rfl, hok.out, by simp⟩
            · go_wp2
              go_ret
              refine ⟨nextB B0 B1, _, cap, qs, rfl, .inr ⟨g, 0, rfl, fun i hi => ?_⟩, hok.out, hl2⟩
              rw [ptsCells_of] at hown
              exact owns_pts hown i hi
  · clear e0 e1
    go_wp2
    go_loopw [19] (fun i wr => ∃ k : Nat, k ≤ n ∧ i = .int .i64 k ∧ Below w.heap.size w wr ∧ BoxS wr (w.heap.size + 1) (loF p k) ∧ BoxS wr (w.heap.size) (hiF p k)) (fun i _ => n - (intOf i).toNat)
    case atStart =>
      refine ⟨0, by omega, rfl, (b2 _ _ _).drew, ?_, ?_⟩
      all_goals first | exact BoxS.ext (show BoxS (w.alloc _) w.heap.size (p 0) from heap_alloc_new w _) (b1 _ _).drew | exact BoxS.ext (by have h := heap_alloc_new (w.alloc (.cells #[.int .i64 (p 0).1, .int .i64 (p 0).2] 65)) (.cells #[.int .i64 (p 0).1, .int .i64 (p 0).2] 65); rw [World.size_alloc] at h; exact h) (Below.refl _ _).drew
    case round =>
      obtain ⟨k, hk, rfl, B0, L, U⟩ := hrel
      have l0 := L.c0
      have l1 := L.c1
      have l2 := L.fr 0
      have l3 := L.fr 1
      have u0 := U.c0
      have u1 := U.c1
      have u2 := U.fr 0
      have u3 := U.fr 1
      by_cases hlt : k < n
      · have hi0 : (0 : Int) ≤ (k : Int) := by omega
        have hi1 : (k : Int) < (n : Int) := by omega
        obtain ⟨f0, f1⟩ := hc.out k hlt
        replace f0 := cellB B0 f0
        replace f1 := cellB B0 f1
        have hL := L.lt
        have hU := U.lt
        have hbr : b < wr.heap.size := block_lt_of_cell f0
        have eL : Hid (loF p (k + 1) = (if (p k).1 < (loF p k).1 then (p k).1 else (loF p k).1, if (p k).2 < (loF p k).2 then (p k).2 else (loF p k).2)) := Lib.hid (by simp only [loF]; congr 1 <;> omega)
        have eU : Hid (hiF p (k + 1) = (if (hiF p k).1 < (p k).1 then (p k).1 else (hiF p k).1, if (hiF p k).2 < (p k).2 then (p k).2 else (hiF p k).2)) := Lib.hid (by simp only [hiF]; congr 1 <;> omega)
        go_wp2
        go_roundw
        case rel => exact ⟨k + 1, by omega, by go_num, ((((B0.setCell (p := ⟨_, 0, none⟩) (by simp) _).setCell (p := ⟨_, 1, none⟩) (by simp) _).setCell (p := ⟨_, 0, none⟩) (by simp) _).setCell (p := ⟨_, 1, none⟩) (by simp) _).alloc (by have := B0.size; simp [World.setCell]; omega) _, by rw [eL.out]; exact (((L.set _ _).other (by omega) _).other (by omega) _).ext (b1 _ _), by rw [eU.out]; exact (((U.other (by omega) _).other (by omega) _).set _ _).ext (b1 _ _)⟩
        case measure => simp [intOf]; omega
      · obtain rfl : k = n := by omega
        have hlh := hsm.out k (Nat.le_refl _)
        obtain ⟨hl50, hu50⟩ := hlh
        unfold Sm at hl50 hu50
        generalize wr = w1 at *
        have hLt := L.lt
        have hUt := U.lt
        go_wp2
        go_loopw [7, 8] (fun v x wx => ∃ (X : Int) (qs : List (Int × Int)), x = .int .i64 X ∧ (loF p k).1 ≤ X ∧ X ≤ 51 ∧ Below w1.heap.size w1 wx ∧ wx.ownsRow w1.heap.size 65 2 v qs.length (ptsCells qs) ∧ PtsOk k p qs ∧ (qs.length : Int) ≤ (X + 50) * 101) (fun _ x _ => (51 - intOf x).toNat)
        case atStart => exact ⟨_, [], rfl, Int.le_refl _, by omega, Below.refl _ _, World.ownsRow_nil _ _ _ _, (fun s hs => by cases hs), by simp; omega⟩
        case round =>
          clear l0 l1 l2 l3 u0 u1 u2 u3
          obtain ⟨X, qs, rfl, hX0, hX1, B1, hown, hok, hlen⟩ := hrel
          have L1 := L.ext B1
          have U1 := U.ext B1
          have l0 := L1.c0
          have l1 := L1.c1
          have u0 := U1.c0
          have u1 := U1.c1
          have hok := Lib.hid hok
          by_cases hX : X ≤ (hiF p k).1
          · go_wp2
            go_loopw [7, 9] (fun v y wy => ∃ (Y : Int) (qs : List (Int × Int)), y = .int .i64 Y ∧ (loF p k).2 ≤ Y ∧ Y ≤ 51 ∧ Below w1.heap.size w1 wy ∧ wy.ownsRow w1.heap.size 65 2 v qs.length (ptsCells qs) ∧ PtsOk k p qs ∧ (qs.length : Int) ≤ (X + 50) * 101 + (Y + 50)) (fun _ y _ => (51 - intOf y).toNat)
            case atStart => exact ⟨_, qs, rfl, Int.le_refl _, by omega, B1, hown, hok.out, by omega⟩
            case round =>
              clear l0 l1 u0 u1 L1 U1 B1 hown hok hlen
              obtain ⟨Y, qs, rfl, hY0, hY1, B1, hown, hok, hlen⟩ := hrel
              have L1 := L.ext B1
              have U1 := U.ext B1
              have u0 := U1.c0
              have u1 := U1.c1
              have hok := Lib.hid hok
              by_cases hY : Y ≤ (hiF p k).2
              · go_wp2_with fail
                refine calls_at (F := fun W => Below wr.heap.size wr W ∧ Box2 W wr.heap.size X Y) ⟨Go.Proofs.Ytnjegnlfdbbleaa.b1 _ _, ⟨by go_simp, by go_simp⟩⟩ ?_
                rintro W ⟨C0, P⟩
                refine (where_any b off k c p X Y W h1 h10 hs.out (by unfold Sm; simp only; omega) (pts_next (nextB B0 (nextB B1 C0)) hc.out)).mono ?_
                rintro e w3 ⟨rfl, hb3⟩
                dsimp only
                have B3 := nextB B1 (nextB C0 hb3)
                have hown3 := owns_next (owns_next hown C0) hb3
                replace P := P.next hb3
                have hlt3 : wr.heap.size < w3.heap.size := block_lt_of_cell P.1
                have U3 := U.ext B3
                clear C0 hb3 u0 u1 U1 B1 hown
                have u0 := U3.c0
                have u1 := U3.c1
                obtain ⟨p0, p1⟩ := id P
                have hbd : (qs.length : Int) ≤ 10201 := by omega
                by_cases hV : 0 ≤ whereI k p (X, Y)
                · have hV' := Lib.hid hV
                  go_wp2_with (at_builtin; refine wpList_append_own _ rfl _ _ 53 rfl w1.heap.size 65 i0 (.agg #[.int .i64 0, .int .i64 0]) 2 16 Try.underlying53 G0.out G1.out G2.out G3.out rfl (by decide) _ _ _ rfl (hown3.alloc _) ⟨w3.heap.size, 0, none⟩ 1 1 [.int .i64 X, .int .i64 Y] rfl rfl (cell_two_new _ _ _ _) (by simp [Value.oneCell']) (by unfold maxLen; omega) (by omega) (by have := B3.size; simp; omega) ?_; intro v' w5 hown5 hgrow _; have hv5 := hown5)
                  go_roundw
                  case rel => exact ⟨Y + 1, qs ++ [(X, Y)], by go_num, by omega, by omega, (B3.alloc B3.size _).grown hgrow (by have := B3.size; simp; omega) (fun g h => by
                    rcases hown3.2 with ⟨e, _⟩ | ⟨g', _, _, e, hbg, _⟩
                    · replace h : Value.ownBlock _ = some g := h
                      change Value.ownBlock _ = some g at h
                      exact absurd h (own_nil e)
                    · exact own_some e h ▸ hbg), by rw [List.length_append, ptsCells_snoc]; exact hown5, fun s hs => (List.mem_append.1 hs).elim (hok.out s) (fun e => by simp at e; subst e; exact ⟨hX0, hX, hY0, hY, hV'.out⟩), by simp; omega⟩
                  case measure => simp [intOf]; omega
                · go_wp2
                  go_roundw
                  case rel => exact ⟨Y + 1, qs, by go_num, by omega, by omega, B3, hown3, hok.out, by omega⟩
                  case measure => simp [intOf]; omega
              · go_wp2
                go_roundw
                case rel => exact ⟨X + 1, qs, by go_num, by omega, by omega, B1, hown, hok.out, by omega⟩
                case measure => simp [intOf]; omega
          · have hl2 : qs.length ≤ 10201 := by omega
            rcases id hown.2 with ⟨rfl, h0⟩ | ⟨g, cap, _, rfl, _⟩
            · have hq : qs = [] := List.eq_nil_of_length_eq_zero h0
              subst hq
              go_wp2
              go_ret
              exact ⟨nextB B0 B1, none, 0, [], rfl, .inl rfl, hok.out, by simp⟩
            · go_wp2
              go_ret
              refine ⟨nextB B0 B1, _, cap, qs, rfl, .inr ⟨g, 0, rfl, fun i hi => ?_⟩, hok.out, hl2⟩
              rw [ptsCells_of] at hown
              exact owns_pts hown i hi
end Go.Proofs.Ytnjegnlfdbbleaa
