/- Layer 5: slices.Grow and Concat of triples. Layer 5, by the program: the other two triples; is a triple implied? Layer 5, by the program: all triples that a function chooses. Layer 5, by the program: Closure. Layer 5: BreedCloses returns true, and changes nothing. -/
import Derived.Test.YtfdaljekehkkaaaGreatDoorQg
import Derived.Laws.Shifts
import Derived.Lib.AppendZeros
import Derived.Laws.AppendOwnNone
import Derived.Test.YtfdaljekehkkaaaGreatDoorFd
import Derived.Test.YtfdaljekehkkaaaGreatDoorQh
import Derived.Test.YtfdaljekehkkaaaGreatDoorHc
namespace Go.Proofs.YtfdaljekehkkaaaGreatDoor
section
open Go Go.RowKit

set_option maxRecDepth 100000 in
set_option maxHeartbeats 1600000 in
theorem grow_zero (w : World) : Calls Tryz.prog 54 #[.slice none 0 0, .int .i64 0] w (Only (.slice none 0 0) w) := by
  go_enter Tryz.func54, Tryz.ntmps54
  go_wp2
  go_ret
  exact Only.mk rfl
set_option maxRecDepth 100000 in
set_option maxHeartbeats 1600000 in
theorem grow_any (k : Nat) (w : World) (h0 : 0 < k) (h60 : k ≤ 1000) :
    Calls Tryz.prog 54 #[.slice none 0 0, .int .i64 k] w fun e w' => ∃ g cap, e = .returned (.slice (some ⟨g, 0, none⟩) (0 : Nat) cap) ∧
      w'.ownsRow w.heap.size 36 3 (.slice (some ⟨g, 0, none⟩) (0 : Nat) cap) 0 [] ∧ Below w.heap.size w w' := by
  obtain ⟨i0, hi, hz0, hz1, hz2⟩ := info_parts infoTrip
  have H := fun ty => Lib.run_append_nil_zeros (P := Tryz.prog) w 46 3 ty 36 i0 (.agg #[.int .i64 0, .int .i64 0, .int .i64 0]) .i64 .i64 Tryz.underlying46 Tryz.underlying3 hi hz0 k h0 (by rw [hz1]; omega) (by omega) (by rw [hz2]; omega)
  have hge := grownCap_ge w k 0 36
  have hle := grownCap_le_maxLen w k 0 36 (by unfold maxLen; omega)
  have hown : Hid ((w.drew.alloc (.cells (Builtin.zeroCells (Value.agg #[.int .i64 0, .int .i64 0, .int .i64 0]).cells k ++ Builtin.zeroCells (Value.agg #[.int .i64 0, .int .i64 0, .int .i64 0]).cells (grownCap w k 0 36 - k)) 36)).ownsRow w.heap.size 36 3 (.slice (some ⟨w.heap.size, 0, none⟩) (0 : Nat) (grownCap w k 0 36)) 0 []) := by
    refine World.ownsRow_made w.drew _ _ (Nat.le_refl _) hle ?_
    rw [Array.size_append, size_zeroCells, size_zeroCells]
    show k * 3 + (grownCap w k 0 36 - k) * 3 = _
    omega
  have hB : Hid (Below w.heap.size w (w.drew.alloc (.cells (Builtin.zeroCells (Value.agg #[.int .i64 0, .int .i64 0, .int .i64 0]).cells k ++ Builtin.zeroCells (Value.agg #[.int .i64 0, .int .i64 0, .int .i64 0]).cells (grownCap w k 0 36 - k)) 36))) := ((Below.refl _ w).drew).alloc (Nat.le_refl _) _
  generalize (w.drew.alloc (.cells (Builtin.zeroCells (Value.agg #[.int .i64 0, .int .i64 0, .int .i64 0]).cells k ++ Builtin.zeroCells (Value.agg #[.int .i64 0, .int .i64 0, .int .i64 0]).cells (grownCap w k 0 36 - k)) 36)) = W at *
  generalize grownCap w k 0 36 = cap at *
  replace H := Lib.hid H
  clear hi hz0 hz1 hz2 hle
  go_enter Tryz.func54, Tryz.ntmps54
  go_wp2_with (at_builtin; refine Lib.wpList_append_run _ rfl _ _ _ _ rfl _ _ rfl rfl _ _ (H.out _) ?_)
  go_ret
  exact ⟨_, cap, rfl, hown.out, hB.out⟩

/-- A slice of triples, and what it holds. -/
structure Part where
  a : Option Addr
  n : Nat
  c : Nat
  L : List T3
def pat (ps : List Part) (i : Nat) : Part := ps.getD i ⟨none, 0, 0, []⟩
/-- All triples of the parts. -/
def allP (ps : List Part) : List T3 := ps.flatMap Part.L
/-- The part's triples lie in memory. -/
def PartOk (w : World) (p : Part) : Prop := Trips w p.a p.L ∧ p.L.length = p.n ∧ (p.a = none → p.c = 0)
theorem PartOk.next {w w' : World} {p : Part} (h : PartOk w p) (hb : Below w.heap.size w w') : PartOk w' p := ⟨h.1.next hb, h.2⟩
theorem allP_succ (ps : List Part) (k : Nat) (hk : k < ps.length) : allP (ps.take (k + 1)) = allP (ps.take k) ++ (pat ps k).L := by
  rw [List.take_succ_eq_append_getElem hk, allP, List.flatMap_append]
  simp [allP, pat, hk]
theorem allP_le (ps : List Part) (k : Nat) : (allP (ps.take k)).length ≤ (allP ps).length := by
  have e : allP ps = allP (ps.take k) ++ allP (ps.drop k) := by
    rw [allP, allP, allP, ← List.flatMap_append, List.take_append_drop]
  rw [e, List.length_append]
  omega
theorem trip_cells {w : World} {b off : Nat} {L : List T3} (hc : ∀ i, i < L.length → w.cell? ⟨b, off + i * 3, none⟩ = some (.int .i64 (tth L i).1) ∧ w.cell? ⟨b, off + i * 3 + 1, none⟩ = some (.int .i64 (tth L i).2.1) ∧ w.cell? ⟨b, off + i * 3 + 2, none⟩ = some (.int .i64 (tth L i).2.2)) :
    ∀ j u, (cT L)[j]? = some u → w.cell? (Addr.add ⟨b, off, none⟩ j) = some u := by
  intro j u hj
  have hl := cT_length L
  have hjl : j < L.length * 3 := by have := (List.getElem?_eq_some_iff.1 hj).1; omega
  obtain ⟨h1, h2, h3⟩ := cT_get L (j / 3) (by omega)
  obtain ⟨e1, e2, e3⟩ := hc (j / 3) (by omega)
  rw [show Addr.add ⟨b, off, none⟩ j = ⟨b, off + j, none⟩ by simp [Addr.add]]
  by_cases hp : j % 3 = 0
  · rw [show j / 3 * 3 = j by omega, hj] at h1
    rw [show off + j = off + j / 3 * 3 by omega, e1, h1]
  · by_cases hq : j % 3 = 1
    · rw [show j / 3 * 3 + 1 = j by omega, hj] at h2
      rw [show off + j = off + j / 3 * 3 + 1 by omega, e2, h2]
    · rw [show j / 3 * 3 + 2 = j by omega, hj] at h3
      rw [show off + j = off + j / 3 * 3 + 2 by omega, e3, h3]
theorem part_src {w : World} {p : Part} {ad : Addr} (h : PartOk w p) (ha : p.a = some ad) : ∀ j u, (cT p.L)[j]? = some u → w.cell? (ad.add j) = some u := by
  intro j u hj
  rcases h.1 with h0 | ⟨b, off, e, hc⟩
  · rw [List.eq_nil_of_length_eq_zero h0] at hj
    simp [cT] at hj
  · rw [ha] at e
    cases e
    exact trip_cells hc j u hj
theorem part_nil {w : World} {p : Part} (h : PartOk w p) (ha : p.a = none) : p.n = 0 ∧ p.c = 0 ∧ p.L = [] := by
  refine ⟨?_, h.2.2 ha, ?_⟩
  · rcases h.1 with h0 | ⟨b, off, e, hc⟩
    · rw [← h.2.1, h0]
    · rw [ha] at e; cases e
  · rcases h.1 with h0 | ⟨b, off, e, hc⟩
    · exact List.eq_nil_of_length_eq_zero h0
    · rw [ha] at e; cases e
theorem grow_both (k : Nat) (w : World) (h60 : k ≤ 1000) :
    Calls Tryz.prog 54 #[.slice none 0 0, .int .i64 k] w fun e w' => ∃ v, e = .returned v ∧ w'.ownsRow w.heap.size 36 3 v 0 [] ∧ Below w.heap.size w w' := by
  by_cases h0 : k = 0
  · subst h0
    refine (grow_zero w).mono ?_
    rintro e w' ⟨rfl, rfl⟩
    exact ⟨_, rfl, World.ownsRow_nil _ _ _ _, Below.refl _ _⟩
  · refine (grow_any k w (by omega) h60).mono ?_
    rintro e w' ⟨g, cap, rfl, h1, h2⟩
    exact ⟨_, rfl, h1, h2⟩

set_option maxRecDepth 100000 in
set_option maxHeartbeats 1600000 in
theorem concat_any (b n c : Nat) (ps : List Part) (w : World) (hn : ps.length = n) (h60 : n ≤ 1000) (hsum : (allP ps).length ≤ 1000)
    (hc : ∀ i, i < n → w.cell? ⟨b, i, none⟩ = some (.slice (pat ps i).a (pat ps i).n (pat ps i).c)) (hok : ∀ i, i < n → PartOk w (pat ps i)) :
    Calls Tryz.prog 41 #[.slice (some ⟨b, 0, none⟩) n c] w fun e w' => ∃ v, e = .returned v ∧
      w'.ownsRow w.heap.size 36 3 v (allP ps).length (cT (allP ps)) ∧ Below w.heap.size w w' := by
  obtain ⟨i0, hi, hz0, hz1, hz2⟩ := info_parts infoTrip
  have G0 := Lib.hid hi
  have G1 := Lib.hid hz0
  have G2 := Lib.hid hz1
  have G3 := Lib.hid hz2
  clear hi hz0 hz1 hz2
  have hsucc := Lib.hid (fun k (hk : k < n) => allP_succ ps k (by omega))
  have hle := Lib.hid (fun k => allP_le ps k)
  have hall : Hid (ps.take n = ps) := List.take_of_length_le (by omega)
  replace hc := Lib.hid hc
  replace hok := Lib.hid hok
  clear hn
  go_enter Tryz.func41, Tryz.ntmps41
  go_wp2
  go_loop [3, 11] (fun s i => ∃ k : Nat, k ≤ n ∧ i = .int .i64 k ∧ s = .int .i64 ((allP (ps.take k)).length : Nat)) (fun _ i => n - (intOf i).toNat)
  case atStart => exact ⟨0, by omega, rfl, rfl⟩
  case round =>
    obtain ⟨k, hk, rfl, rfl⟩ := hrel
    by_cases hlt : k < n
    · have x0 := hc.out k hlt
      have hi0 : (k : Int) < (n : Int) := by omega
      have e1 := hle.out (k + 1)
      rw [hsucc.out k hlt, List.length_append, (hok.out k hlt).2.1] at e1
      have e2 : Hid ((allP (ps.take (k + 1))).length = (allP (ps.take k)).length + (pat ps k).n) := by rw [hsucc.out k hlt, List.length_append, (hok.out k hlt).2.1]; exact Lib.hid rfl
      generalize (allP (ps.take k)).length = s at *
      generalize pat ps k = p at *
      go_wp2
      go_round
      case rel => exact ⟨k + 1, by omega, by go_num, by rw [e2.out]; go_num⟩
      case measure => simp [intOf]; omega
    · obtain rfl : k = n := by omega
      rw [hall.out]
      have hl0 := hle.out
      have hlk := Lib.hid hl0
      clear hl0
      go_wp2_with (go_at_call 54; refine (grow_both _ _ hsum).mono ?_; rintro e w1 ⟨v, rfl, hown, B0⟩)
      go_loopw [6, 27] (fun v i wr => ∃ q : Nat, q ≤ k ∧ i = .int .i64 q ∧ wr.ownsRow w.heap.size 36 3 v (allP (ps.take q)).length (cT (allP (ps.take q))) ∧ Below w.heap.size w wr) (fun _ i _ => k - (intOf i).toNat)
      case atStart => exact ⟨0, by omega, rfl, hown, B0⟩
      case round =>
        clear hown B0
        obtain ⟨q, hq, rfl, hown, B0⟩ := hrel
        by_cases hlt : q < k
        · have x0 := cellB B0 (hc.out q hlt)
          have hi0 : (q : Int) < (k : Int) := by omega
          have e1 := hlk.out (q + 1)
          have hp := Lib.hid ((hok.out q hlt).next B0)
          have es := Lib.hid (hsucc.out q hlt)
          rw [es.out, List.length_append, hp.out.2.1] at e1
          have hL := Lib.hid hp.out.2.1
          generalize allP (ps.take q) = S at *
          generalize pat ps q = p at *
          obtain ⟨pa, pn, pc, pL⟩ := p
          cases pa with
          | none =>
            obtain ⟨rfl, rfl, rfl⟩ := part_nil hp.out rfl
            go_wp2_with (at_builtin; refine wpList_append_own_none rfl _ _ 46 rfl w.heap.size 36 i0 3 Tryz.underlying46 G0.out _ _ _ rfl hown rfl ?_)
            go_roundw
            case rel => exact ⟨q + 1, by omega, by go_num, by rw [es.out, List.append_nil]; exact hown, B0⟩
            case measure => simp [intOf]; omega
          | some ad =>
            have src := Lib.hid (part_src hp.out rfl)
            have hL2 := Lib.hid (show (cT pL).length = pn * 3 by rw [cT_length, hL.out])
            have hone := Lib.hid (cT_one pL)
            simp only [] at e1
            go_wp2_with (at_builtin; refine wpList_append_own _ rfl _ _ 46 rfl w.heap.size 36 i0 (.agg #[.int .i64 0, .int .i64 0, .int .i64 0]) 3 24 Tryz.underlying46 G0.out G1.out G2.out G3.out rfl (by decide) _ _ _ rfl hown ad pn pc (cT pL) rfl hL2.out src.out hone.out (by unfold maxLen; omega) (by omega) B0.size ?_; intro v' w2 hown2 hgrow _)
            have B2 := B0.grown hgrow B0.size (fun k hk => (hown.lt k hk).1)
            go_roundw
            case rel => exact ⟨q + 1, by omega, by go_num, by rw [es.out, List.length_append, cT_append]; simp only []; rw [hL.out]; exact hown2, B2⟩
            case measure => simp [intOf]; omega
        · obtain rfl : q = k := by omega
          rw [hall.out] at hown
          go_wp2
          go_ret
          exact ⟨_, rfl, hown, B0⟩
end
section
open Go Go.RowKit

set_option maxRecDepth 100000 in
set_option maxHeartbeats 2000000 in
theorem others_any (t : T3) (w : World) : Calls Tryz.prog 40 #[t3V t] w (Ret (o2V (oth0 t) (oth1 t)) w) := by
  obtain ⟨a, b, c⟩ := t
  have bA := b2 w (.cells #[.int .i64 a, .int .i64 b, .int .i64 c] 36) (.cells #[.int .i64 (min a c), .int .i64 (max a c), .int .i64 b, .int .i64 (min b c), .int .i64 (max b c), .int .i64 a] 38)
  have hA := Blk.new (w.alloc (.cells #[.int .i64 a, .int .i64 b, .int .i64 c] 36)) 38 #[.int .i64 (min a c), .int .i64 (max a c), .int .i64 b, .int .i64 (min b c), .int .i64 (max b c), .int .i64 a]
  rw [World.size_alloc] at hA
  have r0 := hA.c 0 rfl
  have r1 := hA.c 1 rfl
  have r2 := hA.c 2 rfl
  have r3 := hA.c 3 rfl
  have r4 := hA.c 4 rfl
  have r5 := hA.c 5 rfl
  unfold oth0 oth1
  dsimp only
  go_enter Tryz.func40, Tryz.ntmps40
  go_wp2
  refine bodyPost_ret (v := .agg #[.int .i64 (min a c), .int .i64 (max a c), .int .i64 b, .int .i64 (min b c), .int .i64 (max b c), .int .i64 a]) (by simp [results, Tryz.results40, go_sem, r0, r1, r2, r3, r4, r5]) rfl ?_
  exact Ret.mk rfl bA
theorem index2 (x y : T3) (w : World) : (Instr.index 38 (o2V x y) (.int .i64 0)).run Tryz.prog w = .ok (t3V x) w ∧ (Instr.index 38 (o2V x y) (.int .i64 1)).run Tryz.prog w = .ok (t3V y) w := ⟨by kernel_rfl, by kernel_rfl⟩
set_option maxRecDepth 100000 in
set_option maxHeartbeats 4000000 in
theorem imply_any (a : Option Addr) (l c : Nat) (L : List T3) (m : Nat) (t : T3) (w : World) (hTr : Trips w a L) (hl : L.length = l) (hnil : a = none → c = 0) (hl9 : l ≤ 900) (hok : ∀ t ∈ L, OkT t) (ho0 : OkT (oth0 t)) (ho1 : OkT (oth1 t)) (h1 : 1 ≤ m) (h8 : m ≤ 8) (hT : Tab w) :
    Calls Tryz.prog 23 #[.slice a l c, .int .i64 (m : Nat), t3V t] w (Ret (.bool (!(bldT m (L ++ [oth0 t])).isSome && !(bldT m (L ++ [oth1 t])).isSome)) w) := by
  have O := Lib.hid (fun W => others_any t W)
  have I2 := Lib.hid (fun W => index2 (oth0 t) (oth1 t) W)
  have FT := Lib.hid (fun (o : T3) (ho : OkT o) a' c' W (hI : Trips W a' (L ++ [o])) (hW : Below w.heap.size w W) => fit_any a' (l + 1) c' (L ++ [o]) m W hI (by rw [List.length_append, hl]; rfl) (by omega) (fun x hx => by rcases List.mem_append.1 hx with h | h; exact hok x h; rw [List.mem_singleton] at h; rw [h]; exact ho) h1 h8 (hT.next hW))
  have hI := Lib.hid (fun W (hW : Below w.heap.size w W) => hTr.next hW)
  have hl' := Lib.hid hl
  replace hnil := Lib.hid hnil
  replace ho0 := Lib.hid ho0
  replace ho1 := Lib.hid ho1
  obtain ⟨f0, hf0⟩ : ∃ f, Hid ((bldT m (L ++ [oth0 t])).isSome = f) := ⟨_, Lib.hid rfl⟩
  obtain ⟨f1, hf1⟩ : ∃ f, Hid ((bldT m (L ++ [oth1 t])).isSome = f) := ⟨_, Lib.hid rfl⟩
  rw [hf0.out, hf1.out]
  clear hTr hl hok hT
  go_enter Tryz.func23, Tryz.ntmps23
  go_wp2_with (go_at_call 40; refine (O.out _).mono ?_; rintro e w1 ⟨rfl, hb1⟩)
  have B0 := nextB (b1 w _) hb1
  clear hb1
  unfold o2V at I2
  go_loopw [8, 11] (fun p i wr => ∃ k : Nat, k ≤ 2 ∧ i = .int .i64 k ∧ Hid (1 ≤ k → f0 = false) ∧ Hid (2 ≤ k → f1 = false) ∧ Below w.heap.size w wr) (fun _ i _ => 2 - (intOf i).toNat)
  case atStart => exact ⟨0, by omega, rfl, Lib.hid (fun h => by omega), Lib.hid (fun h => by omega), B0⟩
  case round =>
    clear B0
    obtain ⟨k, hk, rfl, q0, q1, B0⟩ := hrel
    by_cases hlt : k < 2
    · obtain ⟨o, ho, f, hf, hix, hff⟩ : ∃ o, OkT o ∧ ∃ f, Hid ((bldT m (L ++ [o])).isSome = f) ∧ (∀ W, (Instr.index 38 (o2V (oth0 t) (oth1 t)) (.int .i64 (k : Int))).run Tryz.prog W = .ok (t3V o) W) ∧ Hid ((f = false → (1 ≤ k + 1 → f0 = false) ∧ (2 ≤ k + 1 → f1 = false)) ∧ (f = true → (!f0 && !f1) = false)) := by
        have e : k = 0 ∨ k = 1 := by omega
        rcases e with rfl | rfl
        · exact ⟨oth0 t, ho0.out, f0, hf0, fun W => (I2.out W).1, Lib.hid ⟨fun h => ⟨fun _ => h, fun h2 => by omega⟩, fun h => by rw [h]; rfl⟩⟩
        · exact ⟨oth1 t, ho1.out, f1, hf1, fun W => (I2.out W).2, Lib.hid ⟨fun h => ⟨fun _ => q0.out (by omega), fun _ => h⟩, fun h => by rw [h]; simp⟩⟩
      unfold o2V at hix
      replace ho := Lib.hid ho
      go_wp2_with fail
      have B3 := nextB B0 (b3 wr (.cells #[.int .i64 o.1, .int .i64 o.2.1, .int .i64 o.2.2] 36) (.cells #[.int .i64 o.1, .int .i64 o.2.1, .int .i64 o.2.2] 36) (.cells #[.slice a l c, .slice (some ⟨wr.heap.size + 1, 0, none⟩) 1 1] 46))
      have hA := (Blk.new (wr.alloc (.cells #[.int .i64 o.1, .int .i64 o.2.1, .int .i64 o.2.2] 36)) 36 #[.int .i64 o.1, .int .i64 o.2.1, .int .i64 o.2.2]).alloc (.cells #[.slice a l c, .slice (some ⟨wr.heap.size + 1, 0, none⟩) 1 1] 46)
      have hP := Blk.new ((wr.alloc (.cells #[.int .i64 o.1, .int .i64 o.2.1, .int .i64 o.2.2] 36)).alloc (.cells #[.int .i64 o.1, .int .i64 o.2.1, .int .i64 o.2.2] 36)) 46 #[.slice a l c, .slice (some ⟨wr.heap.size + 1, 0, none⟩) 1 1]
      rw [World.size_alloc] at hA
      rw [World.size_alloc, World.size_alloc] at hP
      generalize ((wr.alloc (.cells #[.int .i64 o.1, .int .i64 o.2.1, .int .i64 o.2.2] 36)).alloc (.cells #[.int .i64 o.1, .int .i64 o.2.1, .int .i64 o.2.2] 36)).alloc (.cells #[.slice a l c, .slice (some ⟨wr.heap.size + 1, 0, none⟩) 1 1] 46) = W3 at *
      generalize wr.heap.size + 1 = z at *
      have hall : allP [⟨a, l, c, L⟩, ⟨some ⟨z, 0, none⟩, 1, 1, [o]⟩] = L ++ [o] := by simp [allP]
      have hlen : (L ++ [o]).length = l + 1 := by rw [List.length_append, hl'.out]; rfl
      have z1 : ∀ i, i < 2 → W3.cell? ⟨z + 1, i, none⟩ = some (.slice (pat [⟨a, l, c, L⟩, ⟨some ⟨z, 0, none⟩, 1, 1, [o]⟩] i).a (pat [⟨a, l, c, L⟩, ⟨some ⟨z, 0, none⟩, 1, 1, [o]⟩] i).n (pat [⟨a, l, c, L⟩, ⟨some ⟨z, 0, none⟩, 1, 1, [o]⟩] i).c) := by
        intro i hi
        have : i = 0 ∨ i = 1 := by omega
        rcases this with rfl | rfl
        · exact hP.c 0 rfl
        · exact hP.c 1 rfl
      have z2 : ∀ i, i < 2 → PartOk W3 (pat [⟨a, l, c, L⟩, ⟨some ⟨z, 0, none⟩, 1, 1, [o]⟩] i) := by
        intro i hi
        have : i = 0 ∨ i = 1 := by omega
        rcases this with rfl | rfl
        · exact ⟨hI.out _ B3, hl'.out, hnil.out⟩
        · exact ⟨trips_one hA, rfl, fun h => by cases h⟩
      have CC := concat_any (z + 1) 2 2 [⟨a, l, c, L⟩, ⟨some ⟨z, 0, none⟩, 1, 1, [o]⟩] W3 rfl (by omega) (by rw [hall, hlen]; omega) z1 z2
      rw [hall, hlen] at CC
      refine CC.mono ?_
      rintro e w5 ⟨v, rfl, ho5, hb5⟩
      dsimp only
      obtain ⟨a5, c5, rfl, _, hT5, _⟩ := own_tripsA ho5 hlen
      have B5 := nextB B3 hb5
      clear CC z1 z2 hall hlen hA hP ho5 hb5 B3 hix
      go_wp2_with fail
      have FO := FT.out o ho.out a5 c5 w5 hT5 B5
      rw [hf.out] at FO
      refine FO.mono ?_
      rintro e w6 ⟨rfl, hb6⟩
      dsimp only
      have B6 := nextB B5 hb6
      clear FO hT5 hb6 B5 hf
      cases f
      · have q3 := Lib.hid (hff.out.1 rfl).1
        have q4 := Lib.hid (hff.out.1 rfl).2
        go_wp2
        go_roundw
        case rel => exact ⟨k + 1, by omega, by go_num, q3, q4, B6⟩
        case measure => simp [intOf]; omega
      · have q5 := Lib.hid (hff.out.2 rfl)
        go_wp2
        go_ret
        exact Ret.mk (by rw [q5.out]; rfl) B6
    · have q5 := Lib.hid (q0.out (by omega))
      have q6 := Lib.hid (q1.out (by omega))
      go_wp2
      go_ret
      exact Ret.mk (by have h5 := q5.out; have h6 := q6.out; subst h5; subst h6; rfl) B0
end
section
open Go Go.RowKit

theorem isT_yes {m a b c : Nat} (ha : a < m) (hb : b < m) (hc : c < m) : isT (m : Int) ((a : Int), (b : Int), (c : Int)) = decide (a < b ∧ c ≠ a ∧ c ≠ b) := by
  unfold isT beaB
  rw [Bool.eq_iff_iff]
  simp only [Bool.and_eq_true, decide_eq_true_eq, bne_iff_ne]
  omega
/-- The triples of a and b with a third beast below k, if a is below b. -/
def rowC' (a b k : Nat) : List T3 := if a < b then rowC a b k else []
theorem rowC'_succ (a b k : Nat) : rowC' a b (k + 1) = if a < b ∧ k ≠ a ∧ k ≠ b then rowC' a b k ++ [((a : Int), (b : Int), (k : Int))] else rowC' a b k := by
  unfold rowC'
  by_cases h : a < b
  · rw [if_pos h, if_pos h, rowC]
    by_cases h2 : k ≠ a ∧ k ≠ b
    · rw [if_pos h2, if_pos ⟨h, h2⟩]
    · rw [if_neg h2, if_neg (fun h3 => h2 h3.2)]
  · rw [if_neg h, if_neg h, if_neg (fun h3 => h h3.1)]
theorem rowB_succ (n a k : Nat) : rowB n a (k + 1) = rowB n a k ++ rowC' a k n := by
  rw [rowB, rowC']
  split
  · rfl
  · rw [List.append_nil]
theorem rowC'_len (a b k : Nat) : (rowC' a b k).length ≤ k := by
  unfold rowC'
  split
  · exact rowC_len a b k
  · exact Nat.zero_le _
set_option maxRecDepth 100000 in
set_option maxHeartbeats 4000000 in
theorem that_any (fn : FuncId) (caps : Array Value) (p : T3 → Bool) (m : Nat) (w : World) (h8 : m ≤ 8)
    (HE : ∀ args W, (callFunc fn args).run Tryz.prog W = .ok (.enter fn args) W)
    (H : ∀ t W, Below w.heap.size w W → isT (m : Int) t = true → Calls Tryz.prog fn (#[t3V t] ++ caps) W (Ret (.bool (p t)) W)) :
    Calls Tryz.prog 21 #[.int .i64 (m : Nat), .func (.func fn) #[] caps] w (NewT3 ((allL m).filter p) w) := by
  obtain ⟨i0, hi, hz0, hz1, hz2⟩ := info_parts infoTrip
  have G0 := Lib.hid hi
  have G1 := Lib.hid hz0
  have G2 := Lib.hid hz1
  have G3 := Lib.hid hz2
  clear hi hz0 hz1 hz2
  replace H := Lib.hid H
  have IT := Lib.hid (fun a b c W => isTriple_any (m : Int) a b c W)
  go_enter Tryz.func21, Tryz.ntmps21
  go_wp2
  go_loopw [5, 11] (fun v i wr => ∃ a : Nat, a ≤ m ∧ i = .int .i64 a ∧ wr.ownsRow w.heap.size 36 3 v ((rowA m a).filter p).length (cT ((rowA m a).filter p)) ∧ Below w.heap.size w wr) (fun _ i _ => m - (intOf i).toNat)
  case atStart => exact ⟨0, Nat.zero_le _, rfl, World.ownsRow_nil _ _ _ _, Below.refl _ _⟩
  case round =>
    obtain ⟨a, ha, rfl, hown, B0⟩ := hrel
    have hA := rowA_len h8 a
    by_cases hlt : a < m
    · have hai : (a : Int) < (m : Int) := by omega
      replace hown := Lib.hid hown
      replace B0 := Lib.hid B0
      have eA := Lib.hid (show rowA m (a + 1) = rowA m a ++ rowB m a m from rfl)
      generalize rowA m a = LA at *
      go_wp2
      go_loopw [5, 15] (fun v i wr => ∃ b : Nat, b ≤ m ∧ i = .int .i64 b ∧ wr.ownsRow w.heap.size 36 3 v ((LA ++ rowB m a b).filter p).length (cT ((LA ++ rowB m a b).filter p)) ∧ Below w.heap.size w wr) (fun _ i _ => m - (intOf i).toNat)
      case atStart => exact ⟨0, Nat.zero_le _, rfl, by rw [rowB, List.append_nil]; exact hown.out, B0.out⟩
      case round =>
        clear hown B0
        obtain ⟨b, hb, rfl, hown, B0⟩ := hrel
        have hB := rowB_len h8 a b
        by_cases hltb : b < m
        · have hbi : (b : Int) < (m : Int) := by omega
          replace hown := Lib.hid hown
          replace B0 := Lib.hid B0
          have eAB := Lib.hid (show LA ++ rowB m a (b + 1) = (LA ++ rowB m a b) ++ rowC' a b m by rw [rowB_succ, List.append_assoc])
          have hlen : (LA ++ rowB m a b).length ≤ 8 * 64 + 64 := by rw [List.length_append]; omega
          generalize LA ++ rowB m a b = LB at *
          go_wp2
          go_loopw [5, 19] (fun v i wr => ∃ c : Nat, c ≤ m ∧ i = .int .i64 c ∧ wr.ownsRow w.heap.size 36 3 v ((LB ++ rowC' a b c).filter p).length (cT ((LB ++ rowC' a b c).filter p)) ∧ Below w.heap.size w wr) (fun _ i _ => m - (intOf i).toNat)
          case atStart => exact ⟨0, Nat.zero_le _, rfl, by rw [show rowC' a b 0 = [] by unfold rowC'; split <;> rfl, List.append_nil]; exact hown.out, B0.out⟩
          case round =>
            clear hown B0
            obtain ⟨c, hc, rfl, hown, B0⟩ := hrel
            have hC := rowC'_len a b c
            by_cases hltc : c < m
            · have hci : (c : Int) < (m : Int) := by omega
              have eC := Lib.hid (rowC'_succ a b c)
              have hlenC : ((LB ++ rowC' a b c).filter p).length ≤ 1000 := by
                have := List.length_filter_le p (LB ++ rowC' a b c)
                rw [List.length_append] at this
                omega
              have hit := Lib.hid (isT_yes hlt hltb hltc)
              have bA := nextB B0 (b1 wr (.cells #[.int .i64 (a : Int), .int .i64 (b : Int), .int .i64 (c : Int)] 36))
              have hX := Blk.new wr 36 #[.int .i64 (a : Int), .int .i64 (b : Int), .int .i64 (c : Int)]
              have hownA := hown.alloc (.cells #[.int .i64 (a : Int), .int .i64 (b : Int), .int .i64 (c : Int)] 36)
              have ITc := Lib.hid (fun W => (show Calls Tryz.prog 39 #[.int .i64 (m : Int), .agg #[.int .i64 (a : Int), .int .i64 (b : Int), .int .i64 (c : Int)]] W (Ret (.bool (decide (a < b ∧ c ≠ a ∧ c ≠ b))) W) from by have := IT.out (a : Int) (b : Int) (c : Int) W; rwa [hit.out] at this))
              clear hown B0
              by_cases ht : a < b ∧ c ≠ a ∧ c ≠ b
              · rw [decide_eq_true ht] at ITc
                rw [if_pos ht] at eC
                have HC := Lib.hid (fun W hW => H.out ((a : Int), (b : Int), (c : Int)) W hW (by rw [hit.out]; exact decide_eq_true ht))
                have eL := Lib.hid (show (LB ++ rowC' a b (c + 1)).filter p = (LB ++ rowC' a b c).filter p ++ (if p ((a : Int), (b : Int), (c : Int)) then [((a : Int), (b : Int), (c : Int))] else []) by
                  rw [eC.out, ← List.append_assoc, List.filter_append]
                  congr 1
                  cases hp : p ((a : Int), (b : Int), (c : Int)) <;> simp [hp])
                clear ht
                generalize (LB ++ rowC' a b c).filter p = LC at *
                go_wp2_with fail
                refine (ITc.out _).mono ?_
                rintro e w2 ⟨rfl, hb2⟩
                dsimp only
                have B2 := nextB bA hb2
                have hX2 := hX.ext hb2
                have own2 := owns_next hownA hb2
                have x0 := hX2.c 0 rfl
                have x1 := hX2.c 1 rfl
                have x2 := hX2.c 2 rfl
                clear hX hownA bA hb2 ITc
                go_wp2_with fail
                refine (HC.out _ B2).mono ?_
                rintro e w3 ⟨rfl, hb3⟩
                dsimp only
                have B3 := nextB B2 hb3
                have hX3 := hX2.ext hb3
                have own3 := owns_next own2 hb3
                clear x0 x1 x2 hX2 own2 B2 HC hb3
                have x0 := hX3.c 0 rfl
                have x1 := hX3.c 1 rfl
                have x2 := hX3.c 2 rfl
                have hs := B3.size
                have hq := own3.lt
                cases hp : p ((a : Int), (b : Int), (c : Int))
                · rw [hp] at eL
                  have eL2 := Lib.hid (show (LB ++ rowC' a b (c + 1)).filter p = LC by rw [eL.out]; simp)
                  replace hp := Lib.hid hp
                  replace own3 := Lib.hid own3
                  clear eL
                  go_wp2
                  go_roundw
                  case rel => exact ⟨c + 1, by omega, by go_num, by rw [eL2.out]; exact own3.out, B3⟩
                  case measure => simp [intOf]; omega
                · rw [hp] at eL
                  have eL2 := Lib.hid (show (LB ++ rowC' a b (c + 1)).filter p = LC ++ [((a : Int), (b : Int), (c : Int))] by rw [eL.out]; simp)
                  replace hp := Lib.hid hp
                  clear eL
                  go_wp2_with (at_builtin; refine wpList_append_own _ rfl _ _ 22 rfl w.heap.size 36 i0 (.agg #[.int .i64 0, .int .i64 0, .int .i64 0]) 3 24 Tryz.underlying22 G0.out G1.out G2.out G3.out rfl (by decide) _ _ _ rfl (own3.alloc _) ⟨_, 0, none⟩ 1 1 [.int .i64 (a : Int), .int .i64 (b : Int), .int .i64 (c : Int)] rfl rfl (cell_three_new _ _ _ _ _) (by simp [Value.oneCell']) (by unfold maxLen; omega) (by omega) (by simp; omega) ?_; intro v' w4 hown4 hgrow _)
                  have B4 := (B3.alloc hs (.cells #[.int .i64 (a : Int), .int .i64 (b : Int), .int .i64 (c : Int)] 36)).grown hgrow (by simp; omega) (fun q hqq => by have := (hq q hqq).1; omega)
                  go_roundw
                  case rel => exact ⟨c + 1, by omega, by go_num, by rw [eL2.out, cT_append, List.length_append, List.length_singleton]; exact hown4, B4⟩
                  case measure => simp [intOf]; omega
              · rw [decide_eq_false ht] at ITc
                rw [if_neg ht] at eC
                have eL2 := Lib.hid (show (LB ++ rowC' a b (c + 1)).filter p = (LB ++ rowC' a b c).filter p by rw [eC.out])
                clear ht
                generalize (LB ++ rowC' a b c).filter p = LC at *
                go_wp2_with fail
                refine (ITc.out _).mono ?_
                rintro e w2 ⟨rfl, hb2⟩
                dsimp only
                have B2 := nextB bA hb2
                have own2 := Lib.hid (owns_next hownA hb2)
                clear hX hownA bA hb2 ITc
                go_wp2
                go_roundw
                case rel => exact ⟨c + 1, by omega, by go_num, by rw [eL2.out]; exact own2.out, B2⟩
                case measure => simp [intOf]; omega
            · obtain rfl : c = m := by omega
              rw [← eAB.out] at hown
              replace hown := Lib.hid hown
              go_wp2
              go_roundw
              case rel => exact ⟨b + 1, by omega, by go_num, hown.out, B0⟩
              case measure => simp [intOf]; omega
        · obtain rfl : b = m := by omega
          rw [← eA.out] at hown
          replace hown := Lib.hid hown
          go_wp2
          go_roundw
          case rel => exact ⟨a + 1, by omega, by go_num, hown.out, B0⟩
          case measure => simp [intOf]; omega
    · obtain rfl : a = m := by omega
      replace hown := Lib.hid hown
      go_wp2
      go_ret
      exact ⟨_, rfl, hown.out, B0⟩
end
section
open Go Go.RowKit

theorem bldO_some (o : Option Tr) : (bldO o).2 = o.isSome := by cases o <;> rfl
/-- The box of a list and that of a number. -/
def Boxes (W : World) (bM bN : Nat) (a : Option Addr) (l c m : Nat) : Prop := W.cell? ⟨bM, 0, none⟩ = some (.slice a l c) ∧ W.cell? ⟨bN, 0, none⟩ = some (.int .i64 (m : Nat))
set_option maxRecDepth 100000 in
theorem closure1_any (bM bN : Nat) (a : Option Addr) (l c : Nat) (L : List T3) (m : Nat) (t : T3) (w : World) (hB : Boxes w bM bN a l c m) (hTr : Trips w a L) (hl : L.length = l) (hnil : a = none → c = 0) (hl9 : l ≤ 900) (hok : ∀ t ∈ L, isT (m : Int) t = true) (ht : isT (m : Int) t = true) (h1 : 1 ≤ m) (h8 : m ≤ 8) (hT : Tab w) :
    Calls Tryz.prog 22 #[t3V t, .pointer (some ⟨bM, 0, none⟩), .pointer (some ⟨bN, 0, none⟩)] w (Ret (.bool (inClo m L t)) w) := by
  obtain ⟨o0, o1⟩ := oth_tri ht
  have bA := b1 w (.cells #[.int .i64 t.1, .int .i64 t.2.1, .int .i64 t.2.2] 36)
  have I := Lib.hid (imply_any a l c L m t _ (hTr.next bA) hl hnil hl9 (fun x hx => okT_of (hok x hx) (by omega)) (okT_of o0 (by omega)) (okT_of o1 (by omega)) h1 h8 (hT.next bA))
  have hX := Blk.new w 36 #[.int .i64 t.1, .int .i64 t.2.1, .int .i64 t.2.2]
  have x0 := hX.c 0 rfl
  have x1 := hX.c 1 rfl
  have x2 := hX.c 2 rfl
  have y0 := cellB bA hB.1
  have y1 := cellB bA hB.2
  have e : inClo m L t = (!(bldT m (L ++ [oth0 t])).isSome && !(bldT m (L ++ [oth1 t])).isSome) := by unfold inClo; rw [bldO_some, bldO_some]
  rw [e]
  generalize (!(bldT m (L ++ [oth0 t])).isSome && !(bldT m (L ++ [oth1 t])).isSome) = r at *
  clear hB hTr hl hnil hok ht o0 o1 hT hX e
  go_enter Tryz.func22, Tryz.ntmps22
  go_wp2_with fail
  refine I.out.mono ?_
  rintro e w2 ⟨rfl, hb2⟩
  dsimp only
  clear x0 x1 x2 y0 y1 I
  go_wp2
  go_ret
  exact Ret.mk rfl (nextB bA hb2)
theorem cloE_err {n : Int} {L : List T3} (h : memE n L ≠ 0) : cloE n L = ([], memE n L) := by
  unfold cloE bldE
  rw [if_neg h, if_neg h]
theorem cloE_none {m : Nat} {L : List T3} (h : memE (m : Int) L = 0) (hb : bldT m L = none) : cloE (m : Int) L = ([], 10) := by
  unfold cloE bldE
  rw [if_pos h, Int.toNat_natCast, hb]
  rfl
theorem cloE_some {m : Nat} {L : List T3} {t : Tr} (h : memE (m : Int) L = 0) (hb : bldT m L = some t) : cloE (m : Int) L = ((allL m).filter (inClo m L), 0) := by
  unfold cloE bldE
  rw [if_pos h, Int.toNat_natCast, hb]
  rfl
set_option maxRecDepth 100000 in
set_option maxHeartbeats 2000000 in
theorem Closure_any (n : Int) (a : Option Addr) (l c : Nat) (L : List T3) (w : World) (h : Trips w a L) (hl : L.length = l) (hl9 : l ≤ 900) (hnil : a = none → c = 0) (hT : Tab w) :
    Calls Tryz.prog 7 #[.int .i64 n, .slice a l c] w (CloR (cloE n L) w) := by
  have M := Lib.hid (fun W hW => memoriesOf_any n a l c L W hW hl (by omega))
  unfold memV at M
  obtain ⟨R, hR⟩ : ∃ R, Hid (cloE n L = R) := ⟨_, Lib.hid rfl⟩
  rw [hR.out]
  have bN := b1 w (.cells #[.int .i64 n] 3)
  have hN := Blk.new w 3 #[.int .i64 n]
  by_cases h0 : memE n L = 0
  · rw [if_pos h0] at M
    obtain ⟨m, rfl, h1, h8, hok, h60⟩ := memE_ok h0
    have R1 := Lib.hid (fun (hb : (bldT m L).isSome = false) => hR.out.symm.trans (cloE_none h0 (by cases h : bldT m L with | none => rfl | some t => rw [h] at hb; cases hb)))
    have R2 := Lib.hid (fun (hb : (bldT m L).isSome = true) => (show R = ((allL m).filter (inClo m L), 0) by
      cases h : bldT m L with
      | none => rw [h] at hb; cases hb
      | some t => exact hR.out.symm.trans (cloE_some h0 h)))
    have FT := Lib.hid (fun W (hW : Below w.heap.size w W) => fit_any a l c L m W (h.next hW) hl (by omega) (fun t ht => okT_of (hok t ht) (by omega)) h1 h8 (hT.next hW))
    have CL := Lib.hid (fun bM bN t W (hW : Below w.heap.size w W) (hB : Boxes W bM bN a l c m) (ht : isT (m : Int) t = true) => closure1_any bM bN a l c L m t W hB (h.next hW) hl hnil hl9 hok ht h1 h8 (hT.next hW))
    have hI := Lib.hid h
    replace hN := Lib.hid hN
    have n0 := hN.out.c 0 rfl
    generalize (bldT m L).isSome = sb at *
    clear h hl hnil hok hT h0 h60 hR
    go_enter Tryz.func7, Tryz.ntmps7
    go_wp2_with fail
    refine (M.out _ (hI.out.next bN)).mono ?_
    rintro e w1 ⟨rfl, hb1⟩
    dsimp only
    have B1 := nextB bN (nextB hb1 (b1 w1 (.cells #[.slice a l c] 46)))
    have hM := Blk.new w1 46 #[.slice a l c]
    have m0 := hM.c 0 rfl
    have n1 := cellB (nextB hb1 (b1 w1 (.cells #[.slice a l c] 46))) n0
    clear n0 M
    go_wp2_with fail
    refine (FT.out _ B1).mono ?_
    rintro e w2 ⟨rfl, hb2⟩
    dsimp only
    have B2 := nextB B1 hb2
    have m2 := cellB hb2 m0
    have n2 := cellB hb2 n1
    clear m0 n1 FT hb2 B1 hM hb1
    cases sb
    · have R3 := Lib.hid (R1.out rfl)
      go_wp2
      go_ret2
      exact ⟨_, by rw [R3.out]; rfl, by rw [R3.out]; exact World.ownsRow_nil _ _ _ _, B2⟩
    · have R3 := Lib.hid (R2.out rfl)
      have TH := Lib.hid (that_any 22 #[.pointer (some ⟨w1.heap.size, 0, none⟩), .pointer (some ⟨w.heap.size, 0, none⟩)] (inClo m L) m w2 h8 (fun args W => by go_simp) (fun t W hW ht => CL.out _ _ t W (nextB B2 hW) ⟨cellB hW m2, cellB hW n2⟩ ht))
      go_wp2_with fail
      refine TH.out.mono ?_
      rintro e w3 ⟨v, rfl, ho3, hb3⟩
      dsimp only
      replace ho3 := Lib.hid ho3
      clear TH CL
      go_wp2
      go_ret2
      exact ⟨_, by rw [R3.out]; rfl, by rw [R3.out]; exact owns_base ho3.out B2.size, nextB B2 hb3⟩
  · rw [if_neg h0] at M
    have R3 := Lib.hid (hR.out.symm.trans (cloE_err h0))
    have hne : (memE n L != 0) = true := by rw [bne_iff_ne]; exact h0
    have hI := Lib.hid h
    replace hN := Lib.hid hN
    have n0 := hN.out.c 0 rfl
    clear h hl hnil hT
    generalize memE n L = r at *
    replace h0 := Lib.hid h0
    go_enter Tryz.func7, Tryz.ntmps7
    go_wp2_with fail
    refine (M.out _ (hI.out.next bN)).mono ?_
    rintro e w1 ⟨rfl, hb1⟩
    dsimp only
    have B1 := nextB bN (nextB hb1 (b1 w1 (.cells #[.slice none 0 0] 46)))
    clear n0 M
    go_wp2
    go_ret2
    exact ⟨_, by rw [R3.out]; rfl, by rw [R3.out]; exact World.ownsRow_nil _ _ _ _, B1⟩
end
section
open Go Go.RowKit

theorem cloE_len (n : Int) (L : List T3) : (cloE n L).1.length ≤ 600 := by
  unfold cloE
  split
  · rename_i h0
    have hm : memE n L = 0 := by
      by_cases h : memE n L = 0
      · exact h
      · unfold bldE at h0
        rw [if_neg h] at h0
        exact absurd h0 h
    obtain ⟨m, rfl, h1, h8, _, _⟩ := memE_ok hm
    rw [Int.toNat_natCast]
    have h2 := List.length_filter_le (inClo m L) (allL m)
    have h3 := rowA_len h8 m
    change (allL m).length ≤ m * 64 at h3
    dsimp only
    omega
  · exact Nat.zero_le _
set_option maxRecDepth 100000 in
set_option maxHeartbeats 2000000 in
theorem closes_any (n : Int) (a : Option Addr) (l c : Nat) (L : List T3) (w : World) (h : Trips w a L) (hl : L.length = l) (_ : l ≤ c) (hnil : a = none → c = 0) (hT : Tab w) :
    Calls Tryz.prog 3 #[.int .i64 n, .slice a l c] w (Ret (.bool true) w) := by
  have F : ∀ W, Calls Tryz.prog 5 #[.slice a l c, .string ⟨#[]⟩] W (Only (.bool (decide (l ≤ 100) && decide (([] : List UInt8).length ≤ 100))) W) := fun W => few_any a l c [] W
  have F0 : (decide (l ≤ 100) && decide (([] : List UInt8).length ≤ 100)) = decide (l ≤ 100) := by simp
  rw [F0] at F
  have C := Lib.hid (fun W (hW : Below w.heap.size w W) => alive_any W (hT.next hW))
  have B5 : Below w.heap.size w w := Below.refl _ _
  by_cases h100 : l ≤ 100
  · rw [decide_eq_true h100] at F
    replace F := Lib.hid F
    have K1 := Lib.hid (Closure_any n a l c L w h hl (by omega) hnil hT)
    have K2 := Lib.hid (fun W (hW : Below w.heap.size w W) => refClosure_any n a l c L W (h.next hW) hl h100 hnil)
    have hlen := cloE_len n L
    have e1 := IntWalk.i64_in
    clear h hl hT F0 hnil e1
    generalize hR : cloE n L = R at *
    obtain ⟨R1, R2⟩ := R
    replace hR := Lib.hid hR
    dsimp only at hlen
    go_enter Tryz.func3, Tryz.ntmps3
    go_wp2_with (go_at_call 5; refine (F.out _).mono ?_; rintro e w1 ⟨rfl, rfl⟩)
    refine K1.out.mono ?_
    rintro e w1 ⟨v1, rfl, ho1, hb1⟩
    dsimp only at ho1 ⊢
    obtain ⟨a1, c1, rfl, _, hT1, _⟩ := own_tripsA ho1 rfl
    clear ho1
    go_wp2_with fail
    refine (K2.out _ hb1).mono ?_
    rintro e w2 ⟨v2, rfl, ho2, hb2⟩
    dsimp only at ho2 ⊢
    obtain ⟨a2, c2, rfl, _, hT2, _⟩ := own_tripsA ho2 rfl
    have B2 := nextB hb1 hb2
    have SM := Lib.hid (same_eq a1 a2 R1.length c1 c2 R1 w2 (hT1.next hb2) hT2 rfl (by omega))
    clear ho2 hT1 hT2 hb2 hb1 K1 K2
    go_wp2_with fail
    refine SM.out.mono ?_
    rintro e w3 ⟨rfl, hb3⟩
    dsimp only
    have B3 := nextB B2 hb3
    clear SM hb3 B2
    go_wp2_with (go_at_call 6; refine (C.out _ B3).mono ?_; rintro e w4 ⟨rfl, hb4⟩)
    go_ret
    exact Ret.mk rfl (nextB B3 hb4)
  · rw [decide_eq_false h100] at F
    replace F := Lib.hid F
    clear h hl hT F0 hnil
    go_enter Tryz.func3, Tryz.ntmps3
    go_wp2_with (first
      | (go_at_call 5; refine (F.out _).mono ?_; rintro e w1 ⟨rfl, rfl⟩)
      | (go_at_call 6; refine (C.out _ B5).mono ?_; rintro e w4 ⟨rfl, hb4⟩))
    go_ret
    exact Ret.mk rfl hb4
end
end Go.Proofs.YtfdaljekehkkaaaGreatDoor
