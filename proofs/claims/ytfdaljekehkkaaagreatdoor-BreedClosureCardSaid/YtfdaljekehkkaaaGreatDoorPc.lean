/- Layer 5, by the specification: parts. -/
import Derived.Test.YtfdaljekehkkaaaGreatDoorPb
import Derived.Test.YtfdaljekehkkaaaGreatDoorHb
import Derived.Test.YtfdaljekehkkaaaGreatDoorOa
namespace Go.Proofs.YtfdaljekehkkaaaGreatDoor
open Go Go.RowKit

def NewI (ps : List Nat) (w : World) (e : Ending) (w' : World) : Prop := ∃ v, e = .returned v ∧ w'.ownsRow w.heap.size 3 1 v ps.length (lN ps) ∧ Below w.heap.size w w'
def Tri8 (t : T3) : Prop := ∃ x y z : Nat, t = ((x : Int), (y : Int), (z : Int)) ∧ x < 8 ∧ y < 8 ∧ z < 8
theorem lab_lt {L : List T3} (s : Nat) (h : ∀ t ∈ L, Tri8 t) : ∀ i, i < 8 → labL L s i < 8 := by
  have : ∀ (L : List T3) (at_ : Nat → Nat), (∀ t ∈ L, Tri8 t) → (∀ i, i < 8 → at_ i < 8) → ∀ i, i < 8 → L.foldl (labStep s) at_ i < 8 := by
    intro L
    induction L with
    | nil => intro at_ _ h; exact h
    | cons t L ih =>
      intro at_ h1 h2
      refine ih _ (fun t ht => h1 t (by simp [ht])) fun i hi => ?_
      obtain ⟨x, y, z, rfl, hx, hy, hz⟩ := h1 t (by simp)
      unfold labStep
      split
      · show relab at_ x y i < 8
        unfold relab
        split
        · exact h2 x hx
        · exact h2 i hi
      · exact h2 i hi
  exact this L id h fun i h => h
theorem labL_snoc (L : List T3) (t : T3) (s : Nat) : labL (L ++ [t]) s = labStep s (labL L s) t := by simp [labL]
theorem outF_lt (f : Nat → Nat) (s : Nat) : ∀ i, (outF f s i).2 < 512 := by
  intro i
  induction i with
  | zero => show 0 < 512; omega
  | succ i ih =>
    rw [outF]
    split
    · exact Nat.or_lt_two_pow (n := 9) ih (cls_lt f s i)
    · exact ih
theorem outF_len (f : Nat → Nat) (s : Nat) : ∀ i, (outF f s i).1.length ≤ i := by
  intro i
  induction i with
  | zero => exact Nat.le_refl _
  | succ i ih =>
    rw [outF]
    split
    · rw [List.length_append, List.length_singleton]; omega
    · omega
theorem run_shrB (u i : Nat) (_hu : u < 1099511627776) (h : i < 40) (w : World) : (binOp .shr 3 (.int .i64 (u : Int)) (.int .i64 (i : Int))).run Tryz.prog w = .ok (.int .i64 ((u / 2 ^ i : Nat) : Int)) w := by
  go_simp
theorem shr_bit (s k : Nat) : ((s : Int) / 2 ^ k).tmod 2 = if s.testBit k then 1 else 0 := by
  have h := bt_test s k
  unfold bt pw at h
  have e0 : (s : Int) / 2 ^ k = ((s / 2 ^ k : Nat) : Int) := by rw [Int.natCast_ediv, Int.natCast_pow]; rfl
  rw [e0, Int.tmod_eq_emod_of_nonneg (Int.natCast_nonneg _)]
  have e : (((s / 2 ^ k : Nat) : Int)) % 2 = ((s / 2 ^ k % 2 : Nat) : Int) := by omega
  rw [e, h]
  split <;> rfl
theorem blk_grown {w w' : World} {row : Option Nat} {B : Nat} {t : TypeId} {cs : Array Value} (h : Blk w B t cs) (hg : w.grownBy w' row) (hne : some B ≠ row) : Blk w' B t cs := (hg.block _ h.lt hne).trans h
abbrev z8 : Array Value := #[.int .i64 0, .int .i64 0, .int .i64 0, .int .i64 0, .int .i64 0, .int .i64 0, .int .i64 0, .int .i64 0]
theorem z8_eq : z8 = cF 8 fun j => if j < 0 then j else 0 := by
  apply Array.ext
  · simp [cF]
  · intro i h1 h2
    have hi : i < 8 := h1
    simp only [cF, Array.getElem_map, Array.getElem_range]
    have : i = 0 ∨ i = 1 ∨ i = 2 ∨ i = 3 ∨ i = 4 ∨ i = 5 ∨ i = 6 ∨ i = 7 := by omega
    rcases this with rfl | rfl | rfl | rfl | rfl | rfl | rfl | rfl <;> rfl
set_option maxRecDepth 100000 in
set_option maxHeartbeats 8000000 in
theorem refParts_any (a : Option Addr) (l c : Nat) (L : List T3) (s : Nat) (w : World) (h : Trips w a L) (hl : L.length = l) (hl9 : l ≤ 1000) (hok : ∀ t ∈ L, Tri8 t) (hs : s < 256) :
    Calls Tryz.prog 43 #[.slice a l c, .int .i64 (s : Nat)] w (NewI (outL L s) w) := by
  replace hok := Lib.hid hok
  have hI := Lib.hid (fun W (hW : Below w.heap.size w W) => h.next hW)
  replace hl := Lib.hid hl
  clear h
  have bA := Lib.hid (b1 w (.cells z8 95))
  have hB0 := Lib.hid (Blk.new w 95 z8)
  go_enter Tryz.func43, Tryz.ntmps43
  go_wp2
  go_loopw [6] (fun i wr => ∃ k : Nat, k ≤ 8 ∧ i = .int .i64 k ∧ Blk wr w.heap.size 95 (cF 8 fun j => if j < k then j else 0) ∧ Below w.heap.size w wr) (fun i _ => 8 - (intOf i).toNat)
  case atStart => exact ⟨0, by omega, rfl, by rw [← z8_eq]; exact hB0.out, bA.out⟩
  case round =>
    clear bA hB0
    obtain ⟨k, hk, rfl, hB, B0⟩ := hrel
    by_cases hlt : k < 8
    · have x0 := hB.c k (cF_get hlt)
      have x1 := hB.fr k
      have hS := Lib.hid (hB.setA (i := k) (.int .i64 (k : Int)))
      have bw := Lib.hid (B0.setCell (p := ⟨w.heap.size, k, none⟩) (Nat.le_refl _) (.int .i64 (k : Int)))
      have hki : (k : Int) < 8 := by omega
      replace hB := Lib.hid hB
      go_wp2
      go_roundw
      case rel => exact ⟨k + 1, by omega, by go_num, by
        have := hS.out
        rw [cF_set hlt, cF_congr (u := fun j => if j < k + 1 then j else 0) (fun i hi => by by_cases e : i = k <;> simp [e] <;> split <;> split <;> omega)] at this
        exact this, bw.out⟩
      case measure => simp [intOf]; omega
    · obtain rfl : k = 8 := by omega
      have e0 : cF 8 (fun j => if j < 8 then j else 0) = cF 8 (labL (L.take 0) s) := cF_congr fun i hi => by rw [if_pos hi]; rfl
      rw [e0] at hB
      replace hB := Lib.hid hB
      replace B0 := Lib.hid B0
      clear e0
      rw [show ((8 : Nat) : Int) = 8 from rfl]
      go_wp2
      go_loopw [7] (fun i wr => ∃ k : Nat, k ≤ l ∧ i = .int .i64 k ∧ Blk wr w.heap.size 95 (cF 8 (labL (L.take k) s)) ∧ Below w.heap.size w wr) (fun i _ => l - (intOf i).toNat)
      case atStart => exact ⟨0, Nat.zero_le _, rfl, hB.out, B0.out⟩
      case round =>
        clear hB B0
        obtain ⟨k, hk, rfl, hB, B0⟩ := hrel
        by_cases hlt : k < l
        · have hkl : k < L.length := by rw [hl.out]; exact hlt
          obtain ⟨b, off, rfl, hc⟩ := trips_at (hI.out _ B0) (by omega)
          obtain ⟨z0, z1, z2⟩ := hc k hkl
          obtain ⟨x, y, z, et, hx, hy, hz⟩ := hok.out _ (tth_mem hkl)
          have eL : L.take (k + 1) = L.take k ++ [tth L k] := by rw [List.take_succ_eq_append_getElem hkl, tth_get hkl]
          have hlab := lab_lt s (fun t ht => hok.out t (List.mem_of_mem_take ht)) (L := L.take k)
          have eS : labL (L.take (k + 1)) s = labStep s (labL (L.take k) s) ((x : Int), (y : Int), (z : Int)) := by rw [eL, labL_snoc, et]
          rw [et] at z0 z1 z2
          dsimp only at z0 z1 z2
          replace et := Lib.hid et
          have hki : (k : Int) < (l : Int) := by omega
          clear hc eL
          unfold labStep at eS
          have ea : abcOf ((x : Int), (y : Int), (z : Int)) = pw x ||| pw y ||| pw z := rfl
          rw [ea] at eS
          change labL (L.take (k + 1)) s = (if inB (pw x ||| pw y ||| pw z) s = true then relab (labL (L.take k) s) x y else labL (L.take k) s) at eS
          have px := pw_lt (k := 8) hx
          have py := pw_lt (k := 8) hy
          have pz := pw_lt (k := 8) hz
          have p8 : pw 8 = 256 := rfl
          have hxy : pw x ||| pw y < 256 := Nat.or_lt_two_pow (n := 8) px py
          have hxyz : pw x ||| pw y ||| pw z < 256 := Nat.or_lt_two_pow (n := 8) hxy pz
          have sx := wrap_shl (k := x) (by omega)
          have sy := wrap_shl (k := y) (by omega)
          have sz := wrap_shl (k := z) (by omega)
          have o1 := i64_or_nat (pw x) (pw y) (by omega) (by omega)
          have o2 := i64_or_nat (pw x ||| pw y) (pw z) (by omega) (by omega)
          have an := i64_andNot_nat (pw x ||| pw y ||| pw z) s (by omega) (by omega)
          have hA := Blk.new wr 36 #[.int .i64 (x : Int), .int .i64 (y : Int), .int .i64 (z : Int)]
          have hB1 := hB.alloc (.cells #[.int .i64 (x : Int), .int .i64 (y : Int), .int .i64 (z : Int)] 36)
          have B1 := nextB B0 (b1 wr (.cells #[.int .i64 (x : Int), .int .i64 (y : Int), .int .i64 (z : Int)] 36))
          replace eS := Lib.hid eS
          generalize pw x ||| pw y ||| pw z = q at *
          generalize pw x ||| pw y = q2 at *
          have hdz := dif_zero (a := q) (b := s)
          generalize dif q s = d at *
          clear hB B0
          replace hA := Lib.hid hA
          replace hB1 := Lib.hid hB1
          replace B1 := Lib.hid B1
          replace hlab := Lib.hid hlab
          have a0 : ∀ X : Ext (wr.alloc (.cells #[.int .i64 (x : Int), .int .i64 (y : Int), .int .i64 (z : Int)] 36)), X.world.cell? ⟨wr.heap.size, 0, none⟩ = some (.int .i64 (x : Int)) := cellX (hA.out.c 0 rfl)
          have a1 : ∀ X : Ext (wr.alloc (.cells #[.int .i64 (x : Int), .int .i64 (y : Int), .int .i64 (z : Int)] 36)), X.world.cell? ⟨wr.heap.size, 1, none⟩ = some (.int .i64 (y : Int)) := cellX (hA.out.c 1 rfl)
          have a2 : ∀ X : Ext (wr.alloc (.cells #[.int .i64 (x : Int), .int .i64 (y : Int), .int .i64 (z : Int)] 36)), X.world.cell? ⟨wr.heap.size, 2, none⟩ = some (.int .i64 (z : Int)) := cellX (hA.out.c 2 rfl)
          by_cases hd : d = 0
          · rw [hdz.1 hd] at eS
            simp only [if_true] at eS
            subst hd
            clear hdz
            go_wp2
            generalize wr.alloc (.cells #[.int .i64 (x : Int), .int .i64 (y : Int), .int .i64 (z : Int)] 36) = W1 at *
            refine wp_region_ext (by kernel_rfl) (by kernel_rfl) ?_
            repeat (go_big_quiet_step (fail))
            refine wpQuiet_nil ?_
            rintro ⟨w2, hw2⟩
            dsimp only
            clear a0 a1 a2 an o1 o2 sx sy sz
            have hA2 := hA.out.ext hw2
            have hB2 := hB1.out.ext hw2
            have B2 := Lib.hid (nextB B1.out hw2)
            obtain ⟨f, hf⟩ : ∃ f, Hid (labL (L.take k) s = f) := ⟨_, Lib.hid rfl⟩
            rw [hf.out] at hB2 hlab eS
            have a0 : ∀ X : Ext w2, X.world.cell? ⟨wr.heap.size, 0, none⟩ = some (.int .i64 (x : Int)) := cellX (hA2.c 0 rfl)
            have a1 : ∀ X : Ext w2, X.world.cell? ⟨wr.heap.size, 1, none⟩ = some (.int .i64 (y : Int)) := cellX (hA2.c 1 rfl)
            have y0 := cellX (hB2.c x (cF_get hx))
            have y1 := cellX (hB2.c y (cF_get hy))
            have ix : (x : Int) < 8 := by omega
            have iy : (y : Int) < 8 := by omega
            clear hA hA2 hB1 B1 z0 z1 z2 hw2
            replace hB2 := Lib.hid hB2
            go_wp2
            refine wp_region_ext (by kernel_rfl) (by kernel_rfl) ?_
            repeat (go_big_quiet_step (fail))
            refine wpQuiet_nil ?_
            rintro ⟨w3, hw3⟩
            dsimp only
            clear a0 a1 y0 y1
            have hB3 := Lib.hid (hB2.out.ext hw3)
            have B3 := Lib.hid (nextB B2.out hw3)
            go_wp2
            go_loopw [11] (fun v wr' => ∃ i : Nat, i ≤ 8 ∧ v = .int .i64 i ∧ Blk wr' w.heap.size 95 (cF 8 fun j => if j < i then relab f x y j else f j) ∧ Below w.heap.size w wr') (fun v _ => 8 - (intOf v).toNat)
            case atStart => exact ⟨0, by omega, rfl, by rw [cF_congr (u := f) (fun i _ => by rw [if_neg (by omega)])]; exact hB3.out, B3.out⟩
            case round =>
              clear hB3 B3 hB2 B2
              obtain ⟨i, hi8, rfl, hB, B0⟩ := hrel
              by_cases hi : i < 8
              · have x0 := hB.c i (cF_get hi)
                rw [if_neg (by omega)] at x0
                have x1 := hB.fr i
                have ii : (i : Int) < 8 := by omega
                by_cases he : f i = f y
                · have hS := Lib.hid (hB.setA (i := i) (.int .i64 ((f x : Nat) : Int)))
                  have bw := Lib.hid (B0.setCell (p := ⟨w.heap.size, i, none⟩) (Nat.le_refl _) (.int .i64 ((f x : Nat) : Int)))
                  have hN := Lib.hid (show ∀ j, j < 8 → (if j = i then f x else if j < i then relab f x y j else f j) = if j < i + 1 then relab f x y j else f j from fun j _ => by
                    by_cases e : j = i
                    · subst e; rw [if_pos rfl, if_pos (by omega)]; unfold relab; rw [if_pos he]
                    · rw [if_neg e]; by_cases e2 : j < i
                      · rw [if_pos e2, if_pos (by omega)]
                      · rw [if_neg e2, if_neg (by omega)])
                  rw [he] at x0
                  replace hB := Lib.hid hB
                  go_wp2
                  go_roundw
                  case rel => exact ⟨i + 1, by omega, by go_num, by
                    have := hS.out
                    rw [cF_set hi, cF_congr hN.out] at this
                    exact this, bw.out⟩
                  case measure => simp [intOf]; omega
                · have hne : (((f i : Nat) : Int) == ((f y : Nat) : Int)) = false := by rw [beq_eq_false_iff_ne]; omega
                  have hN := Lib.hid (show ∀ j, j < 8 → (if j < i then relab f x y j else f j) = if j < i + 1 then relab f x y j else f j from fun j _ => by
                    by_cases e : j = i
                    · subst e; rw [if_neg (by omega), if_pos (by omega)]; unfold relab; rw [if_neg he]
                    · by_cases e2 : j < i
                      · rw [if_pos e2, if_pos (by omega)]
                      · rw [if_neg e2, if_neg (by omega)])
                  rw [cF_congr hN.out] at hB
                  replace hB := Lib.hid hB
                  go_wp2
                  go_roundw
                  case rel => exact ⟨i + 1, by omega, by go_num, hB.out, B0⟩
                  case measure => simp [intOf]; omega
              · obtain rfl : i = 8 := by omega
                have e8 : cF 8 (fun j => if j < 8 then relab f x y j else f j) = cF 8 (labL (L.take (k + 1)) s) := cF_congr fun j hj => by rw [if_pos hj, eS.out]
                rw [e8] at hB
                clear e8
                rw [show ((8 : Nat) : Int) = 8 from rfl]
                replace hB := Lib.hid hB
                go_wp2
                go_roundw
                case rel => exact ⟨k + 1, by omega, by go_num, hB.out, B0⟩
                case measure => simp [intOf]; omega
          · have hdf : inB q s = false := by
              cases e : inB q s
              · rfl
              · exact absurd (hdz.2 e) hd
            have hdn : ((d : Int) != 0) = true := by rw [bne_iff_ne]; omega
            rw [hdf] at eS
            simp only [Bool.false_eq_true, if_false] at eS
            clear hdz
            go_wp2
            generalize wr.alloc (.cells #[.int .i64 (x : Int), .int .i64 (y : Int), .int .i64 (z : Int)] 36) = W1 at *
            refine wp_region_ext (by kernel_rfl) (by kernel_rfl) ?_
            repeat (go_big_quiet_step (fail))
            refine wpQuiet_nil ?_
            rintro ⟨w2, hw2⟩
            dsimp only
            clear a0 a1 a2
            have B2 := nextB B1.out hw2
            have hB2 := hB1.out.ext hw2
            go_wp2
            go_roundw
            case rel => exact ⟨k + 1, by omega, by go_num, by rw [eS.out]; exact hB2, B2⟩
            case measure => simp [intOf]; omega
        · obtain rfl : k = l := by omega
          rw [show L.take k = L by rw [← hl.out, List.take_length]] at hB
          have hO : Hid (outL L s = (outF (labL L s) s 8).1) := Lib.hid rfl
          generalize labL L s = f at *
          have hst := Lib.hid (show w.heap.size + 1 ≤ wr.heap.size from hB.lt)
          replace hB := Lib.hid hB
          replace B0 := Lib.hid B0
          clear hok hI hl
          obtain ⟨i0, hi, hz0, hz1, hz2⟩ := info_parts infoInt
          have G0 := Lib.hid hi
          have G1 := Lib.hid hz0
          have G2 := Lib.hid hz1
          have G3 := Lib.hid hz2
          clear hi hz0 hz1 hz2
          go_wp2
          go_loopw [12, 13, 14] (fun v mt v2 wr' => ∃ i : Nat, i ≤ 8 ∧ v2 = .int .i64 i ∧ mt = .int .i64 ((outF f s i).2 : Nat) ∧ wr'.ownsRow (w.heap.size + 1) 3 1 v (outF f s i).1.length (lN (outF f s i).1) ∧ Blk wr' w.heap.size 95 (cF 8 f) ∧ Below w.heap.size w wr') (fun _ _ v _ => 8 - (intOf v).toNat)
          case atStart => exact ⟨0, by omega, rfl, rfl, World.ownsRow_nil _ _ _ _, hB.out, B0.out⟩
          case round =>
            clear hB B0 hst
            obtain ⟨i, hi8, rfl, rfl, hown, hB, B0⟩ := hrel
            by_cases hi : i < 8
            · have ii : (i : Int) < 8 := by omega
              have eO := Lib.hid (show outF f s (i + 1) = if s.testBit i = true ∧ (outF f s i).2 &&& clsF f s i 8 = 0 then ((outF f s i).1 ++ [clsF f s i 8], (outF f s i).2 ||| clsF f s i 8) else outF f s i from rfl)
              have hol := outF_len f s i
              have hmt := outF_lt f s i
              generalize outF f s i = o at *
              obtain ⟨ol, om⟩ := o
              dsimp only at hown hol hmt eO ⊢
              replace hB := Lib.hid hB
              replace hown := Lib.hid hown
              replace B0 := Lib.hid B0
              go_wp2
              go_loopw [15, 16] (fun pt v wr'' => ∃ k : Nat, k ≤ 8 ∧ v = .int .i64 k ∧ pt = .int .i64 ((clsF f s i k : Nat) : Int) ∧ Below wr.heap.size wr wr'') (fun _ v _ => 8 - (intOf v).toNat)
              case atStart => exact ⟨0, by omega, rfl, rfl, Below.refl _ _⟩
              case round =>
                obtain ⟨k, hk8, rfl, rfl, B1⟩ := hrel
                by_cases hk : k < 8
                · have hB1 := hB.out.ext B1
                  have x0 := cellX (hB1.c k (cF_get hk))
                  have x1 := cellX (hB1.c i (cF_get hi))
                  have ki : (k : Int) < 8 := by omega
                  have eC := Lib.hid (show clsF f s i (k + 1) = clsF f s i k + if f k = f i ∧ s.testBit k = true then pw k else 0 from rfl)
                  have hlt := clsF_lt f s i k
                  have hpk := pw_lt hk
                  have p8 : pw 8 = 256 := rfl
                  generalize clsF f s i k = pt at *
                  replace hB1 := Lib.hid hB1
                  by_cases he : f k = f i
                  · have rm := shr_bit s k
                    rw [he] at x0
                    cases hb : s.testBit k
                    · rw [hb] at rm eC
                      simp only [Bool.false_eq_true, if_false, and_false] at rm eC
                      go_wp2
                      refine wp_region_ext (by kernel_rfl) (by kernel_rfl) ?_
                      repeat (go_big_quiet_step (fail))
                      refine wpQuiet_nil ?_
                      rintro ⟨w3, hw3⟩
                      dsimp only
                      clear x0 x1
                      go_wp2
                      go_roundw
                      case rel => exact ⟨k + 1, by omega, by go_num, by rw [eC.out]; rfl, nextB B1 hw3⟩
                      case measure => simp [intOf]; omega
                    · rw [hb] at rm eC
                      simp only [he, and_self, if_true] at rm eC
                      have sh := wrap_shl (k := k) (by omega)
                      have ad : IntKind.i64.wrap ((pt : Int) + ((pw k : Nat) : Int)) = ((pt + pw k : Nat) : Int) := by rw [IntWalk.i64_in _ (by omega)]; omega
                      generalize pw k = pk at *
                      go_wp2
                      refine wp_region_ext (by kernel_rfl) (by kernel_rfl) ?_
                      repeat (go_big_quiet_step (fail))
                      refine wpQuiet_nil ?_
                      rintro ⟨w3, hw3⟩
                      dsimp only
                      clear x0 x1
                      go_wp2
                      go_roundw
                      case rel => exact ⟨k + 1, by omega, by go_num, by rw [eC.out]; simp only [Value.int.injEq, true_and]; omega, nextB B1 hw3⟩
                      case measure => simp [intOf]; omega
                  · have hne : (((f k : Nat) : Int) == ((f i : Nat) : Int)) = false := by rw [beq_eq_false_iff_ne]; omega
                    simp only [he, false_and, if_false] at eC
                    go_wp2
                    refine wp_region_ext (by kernel_rfl) (by kernel_rfl) ?_
                    repeat (go_big_quiet_step (fail))
                    refine wpQuiet_nil ?_
                    rintro ⟨w3, hw3⟩
                    dsimp only
                    clear x0 x1
                    go_wp2
                    go_roundw
                    case rel => exact ⟨k + 1, by omega, by go_num, by rw [eC.out]; rfl, nextB B1 hw3⟩
                    case measure => simp [intOf]; omega
                · obtain rfl : k = 8 := by omega
                  have hp := cls_lt f s i
                  generalize clsF f s i 8 = p at *
                  have rm := shr_bit s i
                  have an := i64_and_nat om p (by omega) (by omega)
                  have B2 := nextB B0.out B1
                  have hB2 := hB.out.ext B1
                  have ho2 := owns_next hown.out B1
                  rw [show ((8 : Nat) : Int) = 8 from rfl]
                  cases hb : s.testBit i
                  · rw [hb] at rm eO
                    simp only [Bool.false_eq_true, if_false, false_and] at rm eO
                    replace hB2 := Lib.hid hB2
                    replace ho2 := Lib.hid ho2
                    go_wp2
                    go_roundw
                    case rel => exact ⟨i + 1, by omega, by go_num, by rw [eO.out], by rw [eO.out]; exact ho2.out, hB2.out, B2⟩
                    case measure => simp [intOf]; omega
                  · rw [hb] at rm eO
                    simp only [if_true, true_and] at rm eO
                    by_cases hz : om &&& p = 0
                    · rw [if_pos hz] at eO
                      rw [hz] at an
                      have or1 := i64_or_nat om p (by omega) (by omega)
                      have hs1 : w.heap.size + 1 ≤ wr.heap.size := hB2.lt
                      replace hB2 := Lib.hid hB2
                      generalize om ||| p = mp at *
                      go_wp2_with (at_builtin; refine wpList_append_own _ rfl _ _ 66 rfl (w.heap.size + 1) 3 i0 (.int .i64 0) 1 8 Tryz.underlying66 G0.out G1.out G2.out G3.out rfl (by decide) _ _ _ rfl (ho2.alloc _) ⟨_, 0, none⟩ 1 1 [.int .i64 (p : Int)] rfl rfl (cell_one_new _ _ _) (by simp [Value.oneCell']) (by unfold maxLen; omega) (by omega) (by simp; omega) ?_; intro v' w4 hown4 hgrow _)
                      have hq := ho2.lt
                      have B4 := (B2.alloc (by omega) (.cells #[.int .i64 (p : Int)] 3)).grown hgrow (by simp; omega) (fun q hqq => by have := (hq q hqq).1; omega)
                      have hB4 := blk_grown (hB2.out.alloc (.cells #[.int .i64 (p : Int)] 3)) hgrow (fun e => by have := (hq _ e.symm).1; omega)
                      go_roundw
                      case rel => exact ⟨i + 1, by omega, by go_num, by rw [eO.out], by rw [eO.out]; dsimp only; rw [List.length_append, lN_snoc]; exact hown4, hB4, B4⟩
                      case measure => simp [intOf]; omega
                    · rw [if_neg hz] at eO
                      have hzn : (((om &&& p : Nat) : Int) == 0) = false := by rw [beq_eq_false_iff_ne]; omega
                      generalize om &&& p = zz at *
                      replace hB2 := Lib.hid hB2
                      replace ho2 := Lib.hid ho2
                      go_wp2
                      go_roundw
                      case rel => exact ⟨i + 1, by omega, by go_num, by rw [eO.out], by rw [eO.out]; exact ho2.out, hB2.out, B2⟩
                      case measure => simp [intOf]; omega
            · obtain rfl : i = 8 := by omega
              replace hown := Lib.hid (owns_base hown (Nat.le_succ _))
              replace hB := Lib.hid hB
              rw [show ((8 : Nat) : Int) = 8 from rfl]
              go_wp2
              go_ret
              exact ⟨_, rfl, by rw [hO.out]; exact hown.out, B0⟩
end Go.Proofs.YtfdaljekehkkaaaGreatDoor
