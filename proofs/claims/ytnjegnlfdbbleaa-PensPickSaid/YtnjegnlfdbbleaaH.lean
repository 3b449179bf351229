/- Layer 1: the walk around the posts, where something is known of each side. -/
import Derived.Test.YtnjegnlfdbbleaaQ
namespace Go.Proofs.Ytnjegnlfdbbleaa
open Go Go.RowKit Go.Shelf
attribute [local go_sem] Oper.semAt_some

/-- Two points in range, of which P is true. -/
abbrev SideP (P : (Int × Int) × (Int × Int) → Prop) := { q : (Int × Int) × (Int × Int) // Sm 50 q.1 ∧ Sm 50 q.2 ∧ P q }
abbrev encSideP {P : (Int × Int) × (Int × Int) → Prop} (x : SideP P) : Array Value := #[.agg #[.int .i64 x.1.1.1, .int .i64 x.1.1.2], .agg #[.int .i64 x.1.2.1, .int .i64 x.1.2.2]]
set_option maxRecDepth 100000 in
set_option maxHeartbeats 2000000 in
theorem sides1P_in (l Bs n₀ b off n c : Nat) (p : Nat → Int × Int) {P : (Int × Int) × (Int × Int) → Prop} (h1 : 1 ≤ n) (h10 : n ≤ 10) (hs : ∀ i, i < n → Sm 50 (p i)) (hP : ∀ i, i < n → P (sideAt n p i)) (hb : b < n₀) (J Jx : List (SideP P) → World → Prop)
    (hY : ∀ pre x W, J pre W → pre.length < n → YieldAt Fence.wide 9 Try.prog l (encSideP x) W fun e W' =>
      (e = .returned (.bool true) ∧ J (pre ++ [x]) W' ∧ KeepB n₀ Bs W W') ∨ (e = .returned (.bool false) ∧ Jx (pre ++ [x]) W'))
    (hJ : ∀ s W W', J s W → Below W.heap.size W W' → J s W')
    (W : World) (hn0 : n₀ ≤ W.heap.size) (hBs : W.cell? ⟨Bs, 0, none⟩ = some (.slice (some ⟨b, off, none⟩) n c))
    (hc : ∀ i, i < n → W.cell? ⟨b, off + i * 2, none⟩ = some (.int .i64 (p i).1) ∧ W.cell? ⟨b, off + i * 2 + 1, none⟩ = some (.int .i64 (p i).2)) (h0 : J [] W) :
    CallsIn Fence.wide 10 Try.prog 64 #[.func (.yield l) #[] #[], .pointer (some ⟨Bs, 0, none⟩)] W fun e W' => (∃ v, e = .returned v) ∧
      ((∃ ys : List (SideP P), ys.map (·.1) = sidesTo n p n ∧ J ys W') ∨ (∃ pre : List (SideP P), (∃ k, k ≤ n ∧ pre.map (·.1) = sidesTo n p k) ∧ Jx pre W')) := by
  have hc := Lib.hid hc
  have hs := Lib.hid hs
  have hP := Lib.hid hP
  have hJ := Lib.hid hJ
  have hro : Fence.wide.round = none := rfl
  refine callsIn_of_wp Try.func64 rfl trivial ?_ hro
  simp only [Try.ntmps64, List.size_toArray, List.length_cons, List.length_nil, Nat.reduceAdd, Nat.reduceSub, Array.replicate_succ, Array.replicate_zero, List.push_toArray, List.append_toArray, List.nil_append, List.cons_append]
  gi_wp2
  gi_loopw [7] (fun i wr => ∃ k : Nat, k ≤ n ∧ i = .int .i64 k ∧ (∃ ys : List (SideP P), ys.map (·.1) = sidesTo n p k ∧ J ys wr) ∧ KeepB n₀ Bs W wr) (fun i _ => n - (intOf i).toNat)
  case atStart => exact ⟨0, Nat.zero_le _, rfl, ⟨[], rfl, h0⟩, Below.refl _ _, rfl⟩
  case round =>
    obtain ⟨k, hk, rfl, ⟨ys, hys, hJs⟩, hnx⟩ := hrel
    have hys := Lib.hid hys
    by_cases hlt : k < n
    · have hi0 : (0 : Int) ≤ (k : Int) := by omega
      have hi1 : (k : Int) < (n : Int) := by omega
      have hq : (k + 1) % n < n := Nat.mod_lt _ (by omega)
      obtain ⟨e0, e1⟩ := hc.out k hlt
      obtain ⟨f0, f1⟩ := hc.out _ hq
      replace e0 := (hnx.1.cell (p := ⟨b, off + k * 2, none⟩) hb).trans e0
      replace e1 := (hnx.1.cell (p := ⟨b, off + k * 2 + 1, none⟩) hb).trans e1
      replace f0 := (hnx.1.cell (p := ⟨b, off + (k + 1) % n * 2, none⟩) hb).trans f0
      replace f1 := (hnx.1.cell (p := ⟨b, off + (k + 1) % n * 2 + 1, none⟩) hb).trans f1
      have hB := (hnx.cell 0).trans hBs
      obtain ⟨m0, m1, m2⟩ := mod_at1 k n (by omega)
      have hbl : b < wr.heap.size := block_lt_of_cell e0
      have hBl : Bs < wr.heap.size := block_lt_of_cell hB
      have hJ3 : ∀ x : Ext (wr.alloc (.cells #[.int .i64 (p k).1, .int .i64 (p k).2] 65)), J ys x.world := fun x => hJ.out ys wr _ hJs (nextB (b1 _ _) x.ok)
      gi_wp2
      have E0 := cellX (cellB (b1 wr (.cells #[.int .i64 (p k).1, .int .i64 (p k).2] 65)) e0)
      have E1 := cellX (cellB (b1 wr (.cells #[.int .i64 (p k).1, .int .i64 (p k).2] 65)) e1)
      have G0 := cellX (cellB (b1 wr (.cells #[.int .i64 (p k).1, .int .i64 (p k).2] 65)) f0)
      have G1 := cellX (cellB (b1 wr (.cells #[.int .i64 (p k).1, .int .i64 (p k).2] 65)) f1)
      have H0 := cellX (cellB (b1 wr (.cells #[.int .i64 (p k).1, .int .i64 (p k).2] 65)) hB)
      have Q0 := cellX (show (wr.alloc (.cells #[.int .i64 (p k).1, .int .i64 (p k).2] 65)).cell? ⟨wr.heap.size, 0, none⟩ = some (.int .i64 (p k).1) by go_simp)
      have Q1 := cellX (show (wr.alloc (.cells #[.int .i64 (p k).1, .int .i64 (p k).2] 65)).cell? ⟨wr.heap.size, 1, none⟩ = some (.int .i64 (p k).2) by go_simp)
      clear e0 e1 f0 f1 hB
      refine wpIn_wide_tail 10 (by kernel_rfl) (by kernel_rfl) (by kernel_rfl) ?_
      dsimp only [List.take, List.drop]
      repeat (go_big_quiet_step (fail))
      refine wpQuiet_nil ?_
      intro x
      obtain ⟨fn, tmps, assign, body, hy, hR⟩ := hY ys ⟨(p k, p ((k + 1) % n)), hs.out k hlt, hs.out _ hq, hP.out k hlt⟩ x.world (hJ3 x) (by have := congrArg List.length hys.out; simp [sidesTo] at this; omega)
      dsimp only [encSideP] at hy
      clear E0 E1 G0 G1 H0 Q0 Q1
      gi_wp2
      refine hR.mono ?_
      rintro e W3 (⟨rfl, hJ4, hk3⟩ | ⟨rfl, hJx⟩)
      · gi_wp2
        go_roundw
        case rel => exact ⟨k + 1, by omega, by go_num, ⟨_, by rw [List.map_append, hys.out, sidesTo_succ]; rfl, hJ4⟩, (hnx.trans (KeepB.ext (Nat.le_trans hn0 hnx.1.size) hBl (nextB (b1 _ _) x.ok))).trans hk3⟩
        case measure => simp [intOf]; omega
      · gi_wp2
        refine bodyPost_ret (results_none rfl _ _ _) rfl ?_
        exact ⟨⟨_, rfl⟩, .inr ⟨_, ⟨k + 1, by omega, by rw [List.map_append, hys.out, sidesTo_succ]; rfl⟩, hJx⟩⟩
    · obtain rfl : k = n := by omega
      gi_wp2
      go_end0
      exact ⟨⟨_, rfl⟩, .inl ⟨ys, hys.out, hJs⟩⟩

/-- What 'p.sides()' hands back yields the sides of p. -/
theorem sidesP_stops (Bs n₀ b off n c : Nat) (p : Nat → Int × Int) {P : (Int × Int) × (Int × Int) → Prop} (w : World) (h1 : 1 ≤ n) (h10 : n ≤ 10) (hs : ∀ i, i < n → Sm 50 (p i)) (hP : ∀ i, i < n → P (sideAt n p i)) (hb : b < n₀) (hn₀ : n₀ ≤ w.heap.size)
    (hBs : w.cell? ⟨Bs, 0, none⟩ = some (.slice (some ⟨b, off, none⟩) n c))
    (hc : ∀ i, i < n → w.cell? ⟨b, off + i * 2, none⟩ = some (.int .i64 (p i).1) ∧ w.cell? ⟨b, off + i * 2 + 1, none⟩ = some (.int .i64 (p i).2)) :
    SeqStopsK Fence.wide 10 Try.prog 64 #[.pointer (some ⟨Bs, 0, none⟩)] (encSideP (P := P)) (KeepB n₀ Bs) (fun ys : List (SideP P) => ys.map (·.1) = sidesTo n p n)
      (fun pre : List (SideP P) => ∃ k, k ≤ n ∧ pre.map (·.1) = sidesTo n p k) n w := fun l J Jx W hW hJ _ hY h0 => by
  refine (sides1P_in l Bs n₀ b off n c p h1 h10 hs hP hb J Jx hY (fun s A B hs hb => ?_) W (Nat.le_trans hn₀ hW.size) (cellB hW hBs) (fun i hi => ⟨cellB hW (hc i hi).1, cellB hW (hc i hi).2⟩) h0)
  exact abides_below (J := J) (B := W.heap.size) hJ hs hb
end Go.Proofs.Ytnjegnlfdbbleaa
