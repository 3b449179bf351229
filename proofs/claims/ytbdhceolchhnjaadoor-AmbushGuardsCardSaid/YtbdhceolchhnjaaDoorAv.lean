/- Layer 4, by the program: do pairs guard each line. -/
import Derived.Test.YtbdhceolchhnjaaDoorAu
namespace Go.Proofs.YtbdhceolchhnjaaDoor
open Go Go.RowKit

theorem inB_two (x a b : Nat) : inB (pw a ||| pw b) x = (x.testBit a && x.testBit b) := by
  rw [Bool.eq_iff_iff, inB_iff, Bool.and_eq_true]
  have ht : ∀ i, (pw a ||| pw b).testBit i = (decide (a = i) || decide (b = i)) := fun i => by
    rw [Nat.testBit_or]; unfold pw; rw [Nat.testBit_two_pow, Nat.testBit_two_pow]
  constructor
  · intro h
    exact ⟨h a (by rw [ht]; simp), h b (by rw [ht]; simp)⟩
  · rintro ⟨h1, h2⟩ i hi
    rw [ht, Bool.or_eq_true, decide_eq_true_eq, decide_eq_true_eq] at hi
    rcases hi with rfl | rfl
    · exact h1
    · exact h2
/-- Pairs of small numbers. -/
def PairsOk (ps : List (Int × Int)) : Prop := ∀ p ∈ ps, 0 ≤ p.1 ∧ p.1 < 16 ∧ 0 ≤ p.2 ∧ p.2 < 16
theorem orpw_lt (i k : Nat) (hi : i < 16) (hk : k < 16) : pw i ||| pw k < 65536 := by
  have h1 : pw i < 2 ^ 16 := by have := pw_lt hi; simpa [pw] using this
  have h2 : pw k < 2 ^ 16 := by have := pw_lt hk; simpa [pw] using this
  exact Nat.or_lt_two_pow h1 h2
set_option maxRecDepth 100000 in
theorem guardedF_any (q : Addr) (x i k : Nat) (hx : x < 65536) (hi : i < 16) (hk : k < 16) (w : World) (hc : w.cell? q = some (.int .i64 (x : Nat))) :
    Calls Tryd.prog 99 #[.agg #[.int .i64 (i : Nat), .int .i64 (k : Nat)], .pointer (some q)] w (Ret (.bool (x.testBit i && x.testBit k)) w) := by
  have S := Lib.hid (fun W => setOf_any i k hi hk W)
  have hs := orpw_lt i k hi hk
  have hr : Hid (inB (pw i ||| pw k) x = (x.testBit i && x.testBit k)) := Lib.hid (inB_two x i k)
  rw [← hr.out]
  clear hr
  generalize pw i ||| pw k = s at *
  have an := i64_and_nat x s (by omega) (by omega)
  have be : (((x &&& s : Nat) : Int) == (s : Int)) = inB s x := by
    show (((x &&& s : Nat) : Int) == (s : Int)) = inB s x
    rw [beq_nat]; rfl
  have hA := Blk.new w 58 #[.int .i64 (i : Nat), .int .i64 (k : Nat)]
  have hb := Lib.hid (b1 w (.cells #[.int .i64 (i : Nat), .int .i64 (k : Nat)] 58))
  have x0 : (w.alloc (.cells #[.int .i64 (i : Nat), .int .i64 (k : Nat)] 58)).cell? ⟨w.heap.size, 0, none⟩ = some (.int .i64 (i : Nat)) := hA.c 0 rfl
  have x1 : (w.alloc (.cells #[.int .i64 (i : Nat), .int .i64 (k : Nat)] 58)).cell? ⟨w.heap.size, 1, none⟩ = some (.int .i64 (k : Nat)) := hA.c 1 rfl
  have x2 := cellB hb.out hc
  clear hA hc
  go_enter Tryd.func99, Tryd.ntmps99
  go_wp2
  generalize w.alloc (.cells #[.int .i64 (i : Nat), .int .i64 (k : Nat)] 58) = w1 at *
  replace x0 := cellX x0
  replace x1 := cellX x1
  replace x2 := cellX x2
  refine wp_region_ext (by kernel_rfl) (by kernel_rfl) ?_
  repeat (go_big_quiet_step (first | exact rfl | with_reducible exact callE (S.out _)))
  refine wpQuiet_nil ?_
  rintro ⟨w2, hw2⟩
  dsimp only
  clear x0 x1 x2
  go_wp2
  go_ret
  exact Ret.mk (by first | rfl | (congr 1; exact be) | (simp only [be]; done)) (nextB hb.out hw2)
set_option maxRecDepth 100000 in
theorem lineG_any (a : Option Addr) (n c : Nat) (ps : List (Int × Int)) (q : Addr) (x : Nat) (hx : x < 65536) (hok : PairsOk ps) (hn : ps.length = n) (h9 : n ≤ 1000) (w : World) (h : Prs w a ps) (hc : w.cell? q = some (.int .i64 (x : Nat))) :
    Calls Tryd.prog 98 #[.slice a n c, .func (.func 99) #[] #[.pointer (some q)]] w (Ret (.bool (lineG ps (x : Int))) w) := by
  have K := containsFP_any 99 #[.pointer (some q)] (fun W => Below w.heap.size w W) (fun i => x.testBit (pth ps i).1.toNat && x.testBit (pth ps i).2.toNat) ps a n c w (Below.refl _ _)
    (fun args W => by go_simp) h9 (fun h0 => by
      obtain ⟨b, off, e, hcc⟩ := prs_at h (by omega)
      exact ⟨b, off, e, fun W hW i hi => ⟨cellB hW (hcc i (by omega)).1, cellB hW (hcc i (by omega)).2⟩⟩) (fun W hW i hi _ => by
      obtain ⟨p1, p2, p3, p4⟩ := hok _ (pth_mem (show i < ps.length by omega))
      have := guardedF_any q x (pth ps i).1.toNat (pth ps i).2.toNat hx (by omega) (by omega) W (cellB hW hc)
      rw [Int.toNat_of_nonneg p1, Int.toNat_of_nonneg p3] at this
      exact this.mono fun _ _ k => ⟨k.1, nextB hW k.2⟩)
  have e1 : (List.range n).any (fun i => x.testBit (pth ps i).1.toNat && x.testBit (pth ps i).2.toNat) = lineG ps (x : Int) := by
    rw [← hn]
    exact any_rangeP ps fun p => x.testBit p.1.toNat && x.testBit p.2.toNat
  rw [e1] at K
  exact K
set_option maxRecDepth 100000 in
set_option maxHeartbeats 2000000 in
theorem guarded_any (m : Nat) (a : Option Addr) (n c : Nat) (R : List Int) (pa : Option Addr) (k pc : Nat) (ps : List (Int × Int)) (w : World) (h : Ints w a R) (hn : R.length = n) (h12 : n ≤ 1000) (hR : Sets R) (hp : Prs w pa ps) (hk : ps.length = k) (hk9 : k ≤ 1000) (hok : PairsOk ps) :
    Calls Tryd.prog 81 #[fV m a n c, .slice pa k pc] w (Ret (.bool (guardB R ps)) w) := by
  obtain ⟨r, hr⟩ : ∃ r, Hid (guardB R ps = r) := ⟨_, Lib.hid rfl⟩
  rw [hr.out]
  have hc : Hid (0 < n → ∃ b off, a = some ⟨b, off, none⟩ ∧ ∀ i, i < n → w.cell? ⟨b, off + i, none⟩ = some (.int .i64 (nth R i))) := Lib.hid (fun h0 => by
    obtain ⟨b, off, e, hc⟩ := ints_at h (by omega)
    exact ⟨b, off, e, fun i hi => hc i (by omega)⟩)
  have L := Lib.hid (fun q x hx W hW hq => lineG_any pa k pc ps q x hx hok hk hk9 W hW hq)
  have hset := Lib.hid (fun k (hk : k < n) => hR _ (nth_mem (show k < R.length by omega)))
  have hfal : Hid (∀ k, k < n → lineG ps (nth R k) = false → r = false) := Lib.hid (fun k hk hf => by
    rw [← hr.out]
    unfold guardB
    rw [List.all_eq_false]
    exact ⟨_, nth_mem (show k < R.length by omega), by rw [hf]; simp⟩)
  have htru : Hid ((∀ j, j < n → lineG ps (nth R j) = true) → r = true) := Lib.hid (fun hh => by
    rw [← hr.out]
    unfold guardB
    rw [List.all_eq_true]
    intro x hx
    obtain ⟨i, hi, rfl⟩ := mem_nth hx
    exact hh i (by omega))
  replace hp := Lib.hid hp
  have hb := b1 w (.cells #[.int .i64 (m : Nat), .slice a n c] 60)
  have hA := Blk.new w 60 #[.int .i64 (m : Nat), .slice a n c]
  clear h hn hk hok hR
  have x0 : (w.alloc (.cells #[.int .i64 (m : Nat), .slice a n c] 60)).cell? ⟨w.heap.size, 0, none⟩ = some (.int .i64 (m : Nat)) := hA.c 0 rfl
  have x1 : (w.alloc (.cells #[.int .i64 (m : Nat), .slice a n c] 60)).cell? ⟨w.heap.size, 1, none⟩ = some (.slice a n c) := hA.c 1 rfl
  clear hA
  go_enter Tryd.func81, Tryd.ntmps81
  go_wp2
  generalize w.alloc (.cells #[.int .i64 (m : Nat), .slice a n c] 60) = w1 at *
  clear x0 x1
  go_loopw [6, 10] (fun _ i wr => ∃ k : Nat, k ≤ n ∧ i = .int .i64 k ∧ (∀ j, j < k → lineG ps (nth R j) = true) ∧ Below w.heap.size w wr) (fun _ i _ => n - (intOf i).toNat)
  case atStart => exact ⟨0, by omega, rfl, fun j hj => absurd hj (by omega), hb⟩
  case round =>
    clear hb
    obtain ⟨j, hj, rfl, hno, B0⟩ := hrel
    replace hno := Lib.hid hno
    by_cases hlt : j < n
    · obtain ⟨b, off, rfl, hcc⟩ := hc.out (by omega)
      have z0 := cellB B0 (hcc j hlt)
      clear hcc
      have hji : (j : Int) < (n : Int) := by omega
      obtain ⟨s1, s2⟩ := hset.out j hlt
      obtain ⟨z, hz⟩ : ∃ z : Nat, Hid (nth R j = (z : Int)) := ⟨(nth R j).toNat, Lib.hid (by omega)⟩
      rw [hz.out] at z0 s1 s2
      have hzl : z < 65536 := by omega
      have L1 := Lib.hid (fun q W hW hq => L.out q z hzl W hW hq)
      have hB := Blk.new wr 3 #[.int .i64 (z : Nat)]
      have y0 : (wr.alloc (.cells #[.int .i64 (z : Nat)] 3)).cell? ⟨wr.heap.size, 0, none⟩ = some (.int .i64 (z : Nat)) := hB.c 0 rfl
      have B1 := B0.alloc B0.size (.cells #[.int .i64 (z : Nat)] 3)
      have y1 := Lib.hid y0
      have hfa := Lib.hid (hfal.out j hlt)
      rw [hz.out] at hfa
      clear hB y0
      cases g : lineG ps (z : Int)
      · have hr0 := Lib.hid (hfa.out g)
        rw [g] at L1
        rw [hr0.out]
        replace g := Lib.hid g
        go_wp2_with (go_at_call 98; refine (L1.out _ _ (hp.out.next B1) y1.out).mono ?_; rintro e w3 ⟨rfl, hb3⟩)
        go_ret
        exact Ret.mk rfl (nextB B1 hb3)
      · rw [g] at L1
        replace g := Lib.hid g
        go_wp2_with (go_at_call 98; refine (L1.out _ _ (hp.out.next B1) y1.out).mono ?_; rintro e w3 ⟨rfl, hb3⟩)
        go_roundw
        case rel => exact ⟨j + 1, by omega, by go_num, fun i hi => (by
          by_cases hij : i = j
          · subst hij; rw [hz.out]; exact g.out
          · exact hno.out i (by omega)), nextB B1 hb3⟩
        case measure => simp [intOf]; omega
    · obtain rfl : j = n := by omega
      have hr1 := Lib.hid (htru.out hno.out)
      go_wp2
      go_ret
      exact Ret.mk (by rw [hr1.out]; rfl) B0
end Go.Proofs.YtbdhceolchhnjaaDoor
