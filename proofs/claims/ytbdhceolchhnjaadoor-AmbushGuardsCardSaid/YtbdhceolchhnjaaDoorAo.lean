/- Layer 4, by the program: positions that are written as text. -/
import Derived.Test.YtbdhceolchhnjaaDoorAn
namespace Go.Proofs.YtbdhceolchhnjaaDoor
open Go Go.RowKit

/-- The i-th byte of a text. -/
def bytA (s : ByteArray) (i : Nat) : Nat := if h : i < s.size then (s[i]'h).toNat else 0
/-- A letter of a position. -/
def okB (b : Nat) : Bool := b == 119 || b == 100 || b == 46
def okS (s : ByteArray) : Bool := (List.range s.size).all fun i => okB (bytA s i)
set_option maxRecDepth 100000 in
theorem isWritten_any (s : ByteArray) (w : World) : Calls Tryd.prog 90 #[.string s] w (Ret (.bool (okS s)) w) := by
  obtain ⟨r, hr⟩ : ∃ r, Hid (okS s = r) := ⟨_, Lib.hid rfl⟩
  rw [hr.out]
  go_enter Tryd.func90, Tryd.ntmps90
  go_wp2
  go_loopw [4] (fun _ w' => ∃ pos : Nat, w' = w.iter s pos ∧ pos ≤ s.size ∧ ∀ j, j < pos → okB (bytA s j) = true) (fun _ w' => s.size - w'.iterPos w.heap.size)
  case atStart => exact ⟨0, rfl, by omega, fun j hj => absurd hj (by omega)⟩
  case round =>
    obtain ⟨pos, rfl, hps, hno⟩ := hrel
    replace hno := Lib.hid hno
    by_cases hp : pos < s.size
    · by_cases ha : (s[pos]'hp).toNat < 128
      · have hnx := fun ty => run_next_ascii (P := Tryd.prog) w s pos ty hp ha
        obtain ⟨z, hz⟩ : ∃ z : Nat, (s[pos]'hp).toNat = z := ⟨_, rfl⟩
        rw [hz] at hnx
        have hbz : Hid (bytA s pos = z) := Lib.hid (by unfold bytA; rw [dif_pos hp]; exact hz)
        cases hok : okB z
        · have hr0 : Hid (r = false) := Lib.hid (by
            rw [← hr.out]
            unfold okS
            rw [List.all_eq_false]
            exact ⟨pos, List.mem_range.2 hp, by rw [hbz.out, hok]; simp⟩)
          unfold okB at hok
          simp only [Bool.or_eq_false_iff, beq_eq_false_iff_ne] at hok
          have d1 : ((z : Int) == 119) = false := by rw [beq_eq_false_iff_ne]; omega
          have d2 : ((z : Int) == 100) = false := by rw [beq_eq_false_iff_ne]; omega
          have d3 : ((z : Int) == 46) = false := by rw [beq_eq_false_iff_ne]; omega
          clear hz ha hok
          go_wp2
          go_ret
          exact Ret.mk (by rw [hr0.out]; rfl) (b1 w _)
        · have hno2 : Hid (∀ j, j < pos + 1 → okB (bytA s j) = true) := Lib.hid (fun j hj => by
            by_cases hjp : j = pos
            · subst hjp; rw [hbz.out]; exact hok
            · exact hno.out j (by omega))
          unfold okB at hok
          simp only [Bool.or_eq_true, beq_iff_eq] at hok
          clear hz ha
          rcases hok with (hok | hok) | hok
          all_goals
            subst hok
            go_wp2
            go_roundw
            case rel => exact ⟨pos + 1, rfl, by omega, hno2.out⟩
            case measure => simp; omega
      · obtain ⟨hd, _⟩ := decode_high s pos hp (by omega)
        have hnx := fun ty => run_next_any (P := Tryd.prog) w s pos ty hp
        have hr0 : Hid (r = false) := Lib.hid (by
            rw [← hr.out]
            unfold okS
            rw [List.all_eq_false]
            refine ⟨pos, List.mem_range.2 hp, ?_⟩
            unfold okB bytA
            rw [dif_pos hp]
            simp; omega)
        generalize (Utf8.decode s pos).1 = z at *
        generalize (Utf8.decode s pos).2 = t at *
        have d1 : ((z : Int) == 119) = false := by rw [beq_eq_false_iff_ne]; omega
        have d2 : ((z : Int) == 100) = false := by rw [beq_eq_false_iff_ne]; omega
        have d3 : ((z : Int) == 46) = false := by rw [beq_eq_false_iff_ne]; omega
        clear ha
        go_wp2
        go_ret
        exact Ret.mk (by rw [hr0.out]; rfl) (b1 w _)
    · have hnx : ∀ ty, (Instr.next (.pointer (some ⟨w.heap.size, 0, none⟩)) true ty).run Tryd.prog (w.iter s pos) = _ := fun ty => run_next_end w s pos ty hp
      have hr1 : Hid (r = true) := Lib.hid (by
        rw [← hr.out]
        unfold okS
        rw [List.all_eq_true]
        exact fun j hj => hno.out j (by have := List.mem_range.1 hj; omega))
      go_wp2
      go_ret
      exact Ret.mk (by rw [hr1.out]; rfl) (b1 w _)
/-- The spots of a letter among the first k. -/
def psB (s : ByteArray) (b : Nat) : Nat → Nat
  | 0 => 0
  | k + 1 => if bytA s k = b then psB s b k + pw k else psB s b k
theorem psB_lt (s : ByteArray) (b : Nat) : ∀ k, psB s b k < pw k := by
  intro k
  induction k with
  | zero => exact pw_pos 0
  | succ k ih =>
    rw [psB, pw_succ]
    split <;> omega
theorem psB_test (s : ByteArray) (b : Nat) : ∀ k i, (psB s b k).testBit i = (decide (i < k) && decide (bytA s i = b)) := by
  intro k
  induction k with
  | zero => intro i; simp [psB]
  | succ k ih =>
    intro i
    have hk : (psB s b k).testBit k = false := by rw [ih]; simp
    rw [psB]
    by_cases h : bytA s k = b
    · rw [if_pos h, add_test hk, ih]
      by_cases hik : k = i
      · subst hik; simp [h]
      · rw [decide_eq_false hik, Bool.or_false]
        congr 1
        rw [decide_eq_decide]; omega
    · rw [if_neg h, ih]
      by_cases hik : i = k
      · subst hik; simp [h]
      · congr 1
        rw [decide_eq_decide]; omega
theorem psB_pos (s : ByteArray) (k : Nat) : PosP k (psB s 119 k) (psB s 100 k) := ⟨psB_lt _ _ _, psB_lt _ _ _, fun i hi => by
  rw [psB_test] at hi ⊢
  simp only [Bool.and_eq_true, decide_eq_true_eq] at hi
  rw [hi.2]; simp⟩
theorem psB_add (s : ByteArray) (b k : Nat) (h : bytA s k = b) : psB s b k ||| pw k = psB s b (k + 1) := by
  rw [psB, if_pos h, or_eq_add (by rw [psB_test]; simp)]
set_option maxRecDepth 100000 in
set_option maxHeartbeats 2000000 in
theorem read_any (s : ByteArray) (n : Nat) (hn : s.size = n) (h9 : n ≤ 9) (w : World) : Calls Tryd.prog 91 #[.string s] w (Ret (pV (psB s 119 n) (psB s 100 n)) w) := by
  have hR := (Blk.new w 62 #[.int .i64 0, .int .i64 0]).alloc (.cells #[.int .i64 0, .int .i64 0] 62)
  have hP : Blk ((w.alloc (.cells #[.int .i64 0, .int .i64 0] 62)).alloc (.cells #[.int .i64 0, .int .i64 0] 62)) (w.heap.size + 1) 62 #[.int .i64 0, .int .i64 0] := by
    have := Blk.new (w.alloc (.cells #[.int .i64 0, .int .i64 0] 62)) 62 #[.int .i64 0, .int .i64 0]
    simpa using this
  have hb := b2 w (.cells #[.int .i64 0, .int .i64 0] 62) (.cells #[.int .i64 0, .int .i64 0] 62)
  have T := Lib.hid (fun k (hk : k < n) t (ht : t < 2) W => taken_any (psB s 119 k) (psB s 100 k) t k ht (by have := psB_lt s 119 k; have := pw_mono (show k ≤ 9 by omega); have h4 : pw 9 = 512 := rfl; omega) (by have := psB_lt s 100 k; have := pw_mono (show k ≤ 9 by omega); have h4 : pw 9 = 512 := rfl; omega) (by omega) W)
  have hn' := Lib.hid hn
  go_enter Tryd.func91, Tryd.ntmps91
  go_wp2
  generalize (w.alloc (.cells #[.int .i64 0, .int .i64 0] 62)).alloc (.cells #[.int .i64 0, .int .i64 0] 62) = w1 at *
  go_loopw [4, 8] (fun _ i wr => ∃ k : Nat, k ≤ n ∧ i = .int .i64 k ∧ Blk wr (w.heap.size + 1) 62 #[.int .i64 (psB s 119 k : Nat), .int .i64 (psB s 100 k : Nat)] ∧ Blk wr w.heap.size 62 #[.int .i64 0, .int .i64 0] ∧ Below w.heap.size w wr) (fun _ i _ => n - (intOf i).toNat)
  case atStart => exact ⟨0, by omega, rfl, hP, hR, hb⟩
  case round =>
    clear hP hR hb
    obtain ⟨k, hk, rfl, hP, hR, B0⟩ := hrel
    by_cases hlt : k < n
    · have hki : (k : Int) < (n : Int) := by omega
      have hks : k < s.size := by omega
      have hbz : Hid (bytA s k = (s[k]'hks).toNat) := Lib.hid (by unfold bytA; rw [dif_pos hks])
      have hsz : (s.size : Int) = (n : Int) := by omega
      by_cases h1 : (s[k]'hks).toNat = 119
      · have hz := h1
        have hadd := Lib.hid (psB_add s 119 k (hbz.out.trans hz))
        have hsame : Hid (psB s 100 (k + 1) = psB s 100 k) := Lib.hid (by rw [psB, if_neg (by rw [hbz.out, hz]; omega)])
        have C := Lib.hid (T.out k hlt 0 (by omega))
        have e1 : tkW (psB s 119 k) 0 k = psB s 119 (k + 1) := by unfold tkW; rw [if_pos rfl]; exact hadd.out
        have e2 : tkD (psB s 100 k) 0 k = psB s 100 (k + 1) := by unfold tkD; rw [if_pos rfl]; exact hsame.out.symm
        rw [e1, e2] at C
        clear e1 e2 hadd hsame
        obtain ⟨u', hu'⟩ : ∃ u, Hid (psB s 119 (k + 1) = u) := ⟨_, Lib.hid rfl⟩
        obtain ⟨v', hv'⟩ : ∃ u, Hid (psB s 100 (k + 1) = u) := ⟨_, Lib.hid rfl⟩
        rw [hu'.out, hv'.out] at C
        generalize psB s 119 k = u at *
        generalize psB s 100 k = v at *
        have x0 : wr.cell? ⟨w.heap.size + 1, 0, none⟩ = some (.int .i64 (u : Nat)) := hP.c 0 rfl
        have x1 : wr.cell? ⟨w.heap.size + 1, 1, none⟩ = some (.int .i64 (v : Nat)) := hP.c 1 rfl
        replace hP := Lib.hid hP
        replace hR := Lib.hid hR
        go_wp2_with (go_at_call 106; refine (C.out _).mono ?_; rintro e w2 ⟨rfl, hb2⟩; replace hP := hP.out.ext hb2; replace hR := Lib.hid (hR.out.ext hb2); replace x0 : w2.cell? ⟨w.heap.size + 1, 0, none⟩ = some (.int .i64 (u : Nat)) := hP.c 0 rfl; replace x1 : w2.cell? ⟨w.heap.size + 1, 1, none⟩ = some (.int .i64 (v : Nat)) := hP.c 1 rfl; have q0 := hP.fr 0; have q1 := hP.fr 1; replace hP := Lib.hid hP)
        have hP2 := hP.out.set2 (.int .i64 (u' : Nat)) (.int .i64 (v' : Nat))
        have hR2 := (hR.out.other (B' := w.heap.size + 1) (i := 0) (by omega) (.int .i64 (u' : Nat))).other (B' := w.heap.size + 1) (i := 1) (by omega) (.int .i64 (v' : Nat))
        have B2 := ((nextB B0 hb2).setCell (p := ⟨w.heap.size + 1, 0, none⟩) (Nat.le_succ _) (.int .i64 (u' : Nat))).setCell (p := ⟨w.heap.size + 1, 1, none⟩) (Nat.le_succ _) (.int .i64 (v' : Nat))
        go_roundw
        case rel => exact ⟨k + 1, by omega, by go_num, by rw [hu'.out, hv'.out]; exact hP2, hR2, B2⟩
        case measure => simp [intOf]; omega
      · by_cases h2 : (s[k]'hks).toNat = 100
        · have hz := h2
          have hadd := Lib.hid (psB_add s 100 k (hbz.out.trans hz))
          have hsame : Hid (psB s 119 (k + 1) = psB s 119 k) := Lib.hid (by rw [psB, if_neg (by rw [hbz.out, hz]; omega)])
          have C := Lib.hid (T.out k hlt 1 (by omega))
          have e1 : tkW (psB s 119 k) 1 k = psB s 119 (k + 1) := by unfold tkW; rw [if_neg (by omega)]; exact hsame.out.symm
          have e2 : tkD (psB s 100 k) 1 k = psB s 100 (k + 1) := by unfold tkD; rw [if_neg (by omega)]; exact hadd.out
          rw [e1, e2] at C
          clear e1 e2 hadd hsame
          obtain ⟨u', hu'⟩ : ∃ u, Hid (psB s 119 (k + 1) = u) := ⟨_, Lib.hid rfl⟩
          obtain ⟨v', hv'⟩ : ∃ u, Hid (psB s 100 (k + 1) = u) := ⟨_, Lib.hid rfl⟩
          rw [hu'.out, hv'.out] at C
          generalize psB s 119 k = u at *
          generalize psB s 100 k = v at *
          have x0 : wr.cell? ⟨w.heap.size + 1, 0, none⟩ = some (.int .i64 (u : Nat)) := hP.c 0 rfl
          have x1 : wr.cell? ⟨w.heap.size + 1, 1, none⟩ = some (.int .i64 (v : Nat)) := hP.c 1 rfl
          replace hP := Lib.hid hP
          replace hR := Lib.hid hR
          go_wp2_with (go_at_call 106; refine (C.out _).mono ?_; rintro e w2 ⟨rfl, hb2⟩; replace hP := hP.out.ext hb2; replace hR := Lib.hid (hR.out.ext hb2); replace x0 : w2.cell? ⟨w.heap.size + 1, 0, none⟩ = some (.int .i64 (u : Nat)) := hP.c 0 rfl; replace x1 : w2.cell? ⟨w.heap.size + 1, 1, none⟩ = some (.int .i64 (v : Nat)) := hP.c 1 rfl; have q0 := hP.fr 0; have q1 := hP.fr 1; replace hP := Lib.hid hP)
          have hP2 := hP.out.set2 (.int .i64 (u' : Nat)) (.int .i64 (v' : Nat))
          have hR2 := (hR.out.other (B' := w.heap.size + 1) (i := 0) (by omega) (.int .i64 (u' : Nat))).other (B' := w.heap.size + 1) (i := 1) (by omega) (.int .i64 (v' : Nat))
          have B2 := ((nextB B0 hb2).setCell (p := ⟨w.heap.size + 1, 0, none⟩) (Nat.le_succ _) (.int .i64 (u' : Nat))).setCell (p := ⟨w.heap.size + 1, 1, none⟩) (Nat.le_succ _) (.int .i64 (v' : Nat))
          go_roundw
          case rel => exact ⟨k + 1, by omega, by go_num, by rw [hu'.out, hv'.out]; exact hP2, hR2, B2⟩
          case measure => simp [intOf]; omega
        · have d1 : (((s[k]'hks).toNat : Int) == 119) = false := by rw [beq_eq_false_iff_ne]; omega
          have d2 : (((s[k]'hks).toNat : Int) == 100) = false := by rw [beq_eq_false_iff_ne]; omega
          have hs1 : Hid (psB s 119 (k + 1) = psB s 119 k) := Lib.hid (by rw [psB, if_neg (by rw [hbz.out]; exact h1)])
          have hs2 : Hid (psB s 100 (k + 1) = psB s 100 k) := Lib.hid (by rw [psB, if_neg (by rw [hbz.out]; exact h2)])
          replace hP := Lib.hid hP
          replace hR := Lib.hid hR
          clear h1 h2
          go_wp2
          go_roundw
          case rel => exact ⟨k + 1, by omega, by go_num, by rw [hs1.out, hs2.out]; exact hP.out, hR.out, B0⟩
          case measure => simp [intOf]; omega
    · obtain rfl : k = n := by omega
      generalize psB s 119 k = u at *
      generalize psB s 100 k = v at *
      have x0 : wr.cell? ⟨w.heap.size + 1, 0, none⟩ = some (.int .i64 (u : Nat)) := hP.c 0 rfl
      have x1 : wr.cell? ⟨w.heap.size + 1, 1, none⟩ = some (.int .i64 (v : Nat)) := hP.c 1 rfl
      have r0 : wr.cell? ⟨w.heap.size, 0, none⟩ = some (.int .i64 0) := hR.c 0 rfl
      have r1 : wr.cell? ⟨w.heap.size, 1, none⟩ = some (.int .i64 0) := hR.c 1 rfl
      have q0 := hR.fr 0
      have q1 := hR.fr 1
      have hS := hR.set2 (.int .i64 (u : Nat)) (.int .i64 (v : Nat))
      have s0 := hS.c 0 rfl
      have s1 := hS.c 1 rfl
      have hb5 := Lib.hid ((B0.setCell (p := ⟨w.heap.size, 0, none⟩) (Nat.le_refl _) (.int .i64 (u : Nat))).setCell (p := ⟨w.heap.size, 1, none⟩) (Nat.le_refl _) (.int .i64 (v : Nat)))
      replace hP := Lib.hid hP
      replace hR := Lib.hid hR
      replace hS := Lib.hid hS
      go_wp2
      refine bodyPost_ret (v := pV u v) (by simp [results, Tryd.results91, go_sem, s0, s1]) rfl ?_
      exact Ret.mk rfl hb5.out
end Go.Proofs.YtbdhceolchhnjaaDoor
