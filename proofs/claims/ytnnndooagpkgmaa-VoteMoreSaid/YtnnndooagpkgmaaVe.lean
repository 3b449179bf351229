/- Layer 3, by the program: the game of a body. -/
import Derived.Test.YtnnndooagpkgmaaVd
namespace Go.Proofs.Ytnnndooagpkgmaa
open Go Go.RowKit

/-- All drovers. -/
def total (ws : List Int) : Int := wsum ws (pw ws.length - 1) ws.length
/-- A body. -/
def BodyP (q : Int) (ws : List Int) : Prop := 1 ≤ ws.length ∧ ws.length ≤ 8 ∧ Wts ws ∧ 1 ≤ q ∧ q ≤ total ws
/-- Does a set win? -/
def winB (q : Int) (ws : List Int) (s : Nat) : Bool := decide (q ≤ wsum ws s ws.length)
theorem enters68 (args : Array Value) (W : World) : (callFunc 68 args).run Try.prog W = .ok (.enter 68 args) W := by go_simp
theorem Wts_any {ws : List Int} : (ws.any fun x => !decide (WtP x)) = false ↔ Wts ws := by
  rw [List.any_eq_false]
  constructor
  · intro h i hi
    have := h _ (nth_mem hi)
    have : WtP (nth ws i) := by simpa using this
    exact this
  · intro h x hx
    obtain ⟨i, hi, rfl⟩ := mem_nth hx
    have : WtP (nth ws i) := h i hi
    simpa using this
theorem gameOfBody1_any (q5 : Addr) (b1 g N s : Nat) (q x : Int) (w : World) (hs : s < N) (_hN : N ≤ 256) (h5 : w.cell? q5 = some (.slice (some ⟨g, 0, none⟩) N N)) (h1 : w.cell? ⟨b1, 0, none⟩ = some (.int .i64 q)) (hx : w.cell? ⟨g, s, none⟩ = some (.int .i64 x)) :
    Calls Try.prog 68 #[.int .i64 (s : Nat), .pointer (some q5), .pointer (some ⟨b1, 0, none⟩)] w (Ret (.bool (decide (q ≤ x))) w) := by
  have hsi : (s : Int) < (N : Int) := by omega
  go_enter Try.func68, Try.ntmps68
  go_wp2
  refine wp_region_ext (by kernel_rfl) (by kernel_rfl) ?_
  replace h5 := cellX h5
  replace h1 := cellX h1
  replace hx := cellX hx
  repeat (go_big_quiet_step (fail))
  refine wpQuiet_nil ?_
  rintro ⟨w1, hw1⟩
  dsimp only
  go_wp2
  go_ret
  exact Ret.mk rfl hw1
abbrev noGame : Value := .tuple #[.agg #[.int .i64 0, .slice none 0 0], .bool false]
theorem gob_len (a : Option Addr) (n c : Nat) (q : Int) (w : World) (hn : n < 1 ∨ 8 < n) :
    Calls Try.prog 43 #[.agg #[.int .i64 q, .slice a n c]] w (Ret noGame w) := by
  rcases hn with hn | hn
  · have : n = 0 := by omega
    subst this
    clear hn
    go_enter Try.func43, Try.ntmps43
    go_wp2
    exact bodyPost_ret (v := noGame) (by simp [results, Try.results43, go_sem]) rfl (Ret.mk rfl (b2 _ _ _))
  · have g1 : decide (n < 1) = false := decide_eq_false (by omega)
    have g2 : decide (8 < n) = true := decide_eq_true (by omega)
    have g3 : decide ((n : Int) < 1) = false := decide_eq_false (by omega)
    have g4 : decide (8 < (n : Int)) = true := decide_eq_true (by omega)
    go_enter Try.func43, Try.ntmps43
    go_wp2
    exact bodyPost_ret (v := noGame) (by simp [results, Try.results43, go_sem]) rfl (Ret.mk rfl (b2 _ _ _))
theorem gob_wts (a : Option Addr) (n c : Nat) (q : Int) (ws : List Int) (w : World) (h : Ints w a ws) (hl : ws.length = n) (h1 : 1 ≤ n) (h8 : n ≤ 8) (hw : ¬ Wts ws) :
    Calls Try.prog 43 #[.agg #[.int .i64 q, .slice a n c]] w (Ret noGame w) := by
  have g : (ws.any fun x => !decide (WtP x)) = true := by
    cases hg : (ws.any fun x => !decide (WtP x))
    · exact absurd (Wts_any.1 hg) hw
    · rfl
  have K := Lib.hid (fun W hW => noWeights_any a n c ws W hW hl (by omega))
  rw [g] at K
  clear g hw hl
  have h := Lib.hid h
  have g1 : decide (n < 1) = false := decide_eq_false (by omega)
  have g2 : decide (8 < n) = false := decide_eq_false (by omega)
  have g3 : decide ((n : Int) < 1) = false := decide_eq_false (by omega)
  have g4 : decide (8 < (n : Int)) = false := decide_eq_false (by omega)
  go_enter Try.func43, Try.ntmps43
  go_wp2_with (go_at_call 65; refine (K.out _ (h.out.next (b2 _ _ _))).mono ?_; rintro e w1 ⟨rfl, rfl⟩)
  exact bodyPost_ret (v := noGame) (by simp [results, Try.results43, go_sem]) rfl (Ret.mk rfl (b2 _ _ _))
/-- The game of a body. -/
def BodyR (q : Int) (ws : List Int) (w : World) (e : Ending) (w' : World) : Prop := ∃ B, e = .returned (.tuple #[gV ws.length B (pw ws.length), .bool true]) ∧ w.heap.size ≤ B ∧ Bools w' B (pw ws.length) (winB q ws) ∧ Below w.heap.size w w'
theorem own_no (ws : List Int) (hw : Wts ws) : (ws.any fun x => !decide (WtP x)) = false := Wts_any.2 hw
set_option maxRecDepth 100000 in
set_option maxHeartbeats 1600000 in
theorem gob_in (a : Option Addr) (n c : Nat) (q : Int) (ws : List Int) (w : World) (h : Ints w a ws) (hl : ws.length = n) (h1 : 1 ≤ n) (h8 : n ≤ 8) (hw : Wts ws) :
    Calls Try.prog 43 #[.agg #[.int .i64 q, .slice a n c]] w (fun e w' => (BodyP q ws → BodyR q ws w e w') ∧ (¬ BodyP q ws → Ret noGame w e w')) := by
  have K := Lib.hid (fun W hW => noWeights_any a n c ws W hW hl (by omega))
  rw [own_no ws hw] at K
  have S := Lib.hid (fun W hW => (show Calls Try.prog 67 #[.slice a n c] W (fun e w' => ∃ g, e = .returned (.slice (some ⟨g, 0, none⟩) (pw n) (pw n)) ∧ W.heap.size ≤ g ∧ (∀ s, s < pw n → w'.cell? ⟨g, s, none⟩ = some (.int .i64 (wsum ws s n))) ∧ Below W.heap.size W w') by
    have := sums_any a n c ws W hW hl h8 hw
    unfold SumsR at this
    rw [hl] at this
    exact this))
  have hbd := wsum_bd hw (pw n - 1) n (by omega)
  have hBP : Hid (BodyP q ws ↔ 1 ≤ q ∧ q ≤ wsum ws (pw n - 1) n) := Lib.hid ⟨fun h => ⟨h.2.2.2.1, by have := h.2.2.2.2; unfold total at this; rwa [hl] at this⟩, fun h => ⟨by omega, by omega, hw, h.1, by unfold total; rw [hl]; exact h.2⟩⟩
  have h := Lib.hid h
  have g1 : decide (n < 1) = false := decide_eq_false (by omega)
  have g2 : decide (8 < n) = false := decide_eq_false (by omega)
  have g3 : decide ((n : Int) < 1) = false := decide_eq_false (by omega)
  have g4 : decide (8 < (n : Int)) = false := decide_eq_false (by omega)
  have hp8 : pw n ≤ 256 := by have := pw_mono h8; simpa [pw] using this
  have hp1 := pw_pos n
  have hl' := Lib.hid hl
  clear hl
  obtain ⟨N, hN⟩ : ∃ N, Hid (pw n = N) := ⟨_, Lib.hid rfl⟩
  rw [hN.out] at hp8 hp1 S hbd hBP
  have NG := Lib.hid (fun caps f W => newGame_any n 68 caps f W h1 h8 enters68)
  have wl : wrap64 ((N : Int) - 1) = ((N - 1 : Nat) : Int) := by rw [IntWalk.wrap64_in _ ⟨by omega, by omega⟩]; omega
  obtain ⟨T, hT⟩ : ∃ T, Hid (wsum ws (N - 1) n = T) := ⟨_, Lib.hid rfl⟩
  rw [hT.out] at hbd hBP
  have wl2 : IntKind.i64.wrap ((N : Int) - 1) = ((N - 1 : Nat) : Int) := by rw [IntWalk.i64_in _ (by omega)]; omega
  have hN1i : ((N - 1 : Nat) : Int) < (N : Int) := by omega
  obtain ⟨g5, g6, hcase⟩ : ∃ g5 g6 : Bool, decide (q < 1) = g5 ∧ decide (T < q) = g6 := ⟨_, _, rfl, rfl⟩
  cases g5 <;> cases g6
  all_goals
    obtain ⟨k5, k6⟩ := hcase
    go_enter Try.func43, Try.ntmps43
    go_wp2_with (first
      | (go_at_call 65; refine (K.out _ (h.out.next (b2 _ _ _))).mono ?_; rintro e w1 ⟨rfl, rfl⟩)
      | (go_at_call 67; refine (S.out _ (h.out.next (b2 _ _ _))).mono ?_; rintro e w1 ⟨g, rfl, hg, hs, hb⟩; replace hs := Lib.hid hs))
    have hA : Blk (w1.alloc (.cells #[.slice (some ⟨g, 0, none⟩) N N] 22)) w.heap.size 24 #[.int .i64 q, .slice a n c] := (((Blk.new w _ _).alloc _).ext hb).alloc _
    have hR : Blk (w1.alloc (.cells #[.slice (some ⟨g, 0, none⟩) N N] 22)) (w.heap.size + 1) 60 #[.int .i64 0, .slice none 0 0] := by
      have := Blk.new (w.alloc (.cells #[.int .i64 q, .slice a n c] 24)) 60 #[.int .i64 0, .slice none 0 0]
      have h2 : Blk ((w.alloc (.cells #[.int .i64 q, .slice a n c] 24)).alloc (.cells #[.int .i64 0, .slice none 0 0] 60)) (w.heap.size + 1) 60 #[.int .i64 0, .slice none 0 0] := by simpa using this
      exact (h2.ext hb).alloc _
    have hS := Blk.new w1 22 #[.slice (some ⟨g, 0, none⟩) N N]
    have hb' := nextB (b2 w (.cells #[.int .i64 q, .slice a n c] 24) (.cells #[.int .i64 0, .slice none 0 0] 60)) (nextB hb (b1 w1 (.cells #[.slice (some ⟨g, 0, none⟩) N N] 22)))
    have hs' := Lib.hid (fun s hs' => cellB (b1 w1 (.cells #[.slice (some ⟨g, 0, none⟩) N N] 22)) (hs.out s hs'))
    have hN1 := hs'.out (N - 1) (by omega)
    rw [hT.out] at hN1
    clear hs hb
    generalize w1.heap.size = b5 at *
    generalize w1.alloc (.cells #[.slice (some ⟨g, 0, none⟩) N N] 22) = W at *
    have x0 := cellX (hA.c 0 rfl)
    have x5 := cellX (hS.c 0 rfl)
    have xN := cellX hN1
    clear hN1
    replace hA := Lib.hid hA
    replace hR := Lib.hid hR
    replace hS := Lib.hid hS
    refine wp_region_ext (by kernel_rfl) (by kernel_rfl) ?_
    repeat (go_big_quiet_step (fail))
    refine wpQuiet_nil ?_
    rintro ⟨w2, hw2⟩
    dsimp only
    clear x0 x5 xN
    replace hA := hA.out.ext hw2
    replace hR := hR.out.ext hw2
    replace hS := hS.out.ext hw2
    replace hs' := Lib.hid (fun s hs => cellB hw2 (hs'.out s hs))
    replace hb' := nextB hb' hw2
    clear hw2
    have hsz := hb'.size
    have hszW : w.heap.size + 1 < w2.heap.size := by have := hR.lt; exact this
    have r0 := hR.c 0 rfl
    have r1 := hR.c 1 rfl
    have f0 := hR.fr 0
    have f1 := hR.fr 1
  · have HN := NG.out #[.pointer (some ⟨b5, 0, none⟩), .pointer (some ⟨w.heap.size, 0, none⟩)] (winB q ws) w2 (fun W' hW' s hs => by
      have := gameOfBody1_any ⟨b5, 0, none⟩ w.heap.size g N s q (wsum ws s n) W' (by rw [hN.out] at hs; exact hs) (by omega) ((hS.ext hW').c 0 rfl) ((hA.ext hW').c 0 rfl) (cellB hW' (hs'.out s (by rw [hN.out] at hs; exact hs)))
      unfold winB
      rw [hl'.out]
      exact this)
    unfold GameR at HN
    rw [hN.out] at HN
    replace HN := Lib.hid HN
    replace hR := Lib.hid hR
    replace hA := Lib.hid hA
    replace hS := Lib.hid hS
    go_wp2_with (go_at_call 58; refine HN.out.mono ?_; rintro e w3 ⟨B, rfl, hgB, hB, hb3⟩; have hR3 := hR.out.ext hb3; clear r0 r1 f0 f1; have r0 := hR3.c 0 rfl; have r1 := hR3.c 1 rfl; have f0 := hR3.fr 0; have f1 := hR3.fr 1; replace hR3 := Lib.hid hR3; replace hB := Lib.hid hB)
    have hQ := hR3.out.set2 (.int .i64 (n : Nat)) (.slice (some ⟨B, 0, none⟩) N N)
    have s0 := hQ.c 0 rfl
    have s1 := hQ.c 1 rfl
    refine bodyPost_ret (v := .tuple #[gV n B N, .bool true]) (by simp [results, Try.results43, go_sem, s0, s1]) rfl ?_
    refine ⟨fun _ => ⟨B, by rw [hl'.out, hN.out], by omega, ?_, ?_⟩, fun h => absurd (hBP.out.2 (by simp only [decide_eq_false_iff_not] at k5 k6; omega)) h⟩
    · rw [hl'.out, hN.out]
      exact (hB.out.other (by omega) _).other (by omega) _
    · exact ((nextB hb' hb3).setCell (Nat.le_succ _) _).setCell (Nat.le_succ _) _
  all_goals
    have hQ := hR.set2 (.int .i64 0) (.slice none 0 0)
    have s0 := hQ.c 0 rfl
    have s1 := hQ.c 1 rfl
    replace hQ := Lib.hid hQ
    replace hR := Lib.hid hR
    replace hA := Lib.hid hA
    replace hS := Lib.hid hS
    go_wp2_with fail
    refine bodyPost_ret (v := noGame) (by simp [results, Try.results43, go_sem, s0, s1]) rfl ?_
    refine ⟨fun h => absurd (hBP.out.1 h) (by simp only [decide_eq_true_eq, decide_eq_false_iff_not] at k5 k6; omega), fun _ => Ret.mk rfl ?_⟩
    exact (hb'.setCell (Nat.le_succ _) _).setCell (Nat.le_succ _) _
theorem gob_any (a : Option Addr) (n c : Nat) (q : Int) (ws : List Int) (w : World) (h : Ints w a ws) (hl : ws.length = n) :
    Calls Try.prog 43 #[.agg #[.int .i64 q, .slice a n c]] w (fun e w' => (BodyP q ws → BodyR q ws w e w') ∧ (¬ BodyP q ws → Ret noGame w e w')) := by
  by_cases hn : n < 1 ∨ 8 < n
  · exact (gob_len a n c q w hn).mono fun e w' hr => ⟨fun hb => absurd hb (fun hb => by have := hb.1; have := hb.2.1; omega), fun _ => hr⟩
  · by_cases hw : Wts ws
    · exact gob_in a n c q ws w h hl (by omega) (by omega) hw
    · exact (gob_wts a n c q ws w h hl (by omega) (by omega) hw).mono fun e w' hr => ⟨fun hb => absurd hb.2.2.1 hw, fun _ => hr⟩
theorem gob_yes (a : Option Addr) (n c : Nat) (q : Int) (ws : List Int) (w : World) (h : Ints w a ws) (hl : ws.length = n) (hB : BodyP q ws) :
    Calls Try.prog 43 #[.agg #[.int .i64 q, .slice a n c]] w (BodyR q ws w) := (gob_any a n c q ws w h hl).mono fun _ _ hr => hr.1 hB
theorem gob_no (a : Option Addr) (n c : Nat) (q : Int) (ws : List Int) (w : World) (h : Ints w a ws) (hl : ws.length = n) (hB : ¬ BodyP q ws) :
    Calls Try.prog 43 #[.agg #[.int .i64 q, .slice a n c]] w (Ret noGame w) := (gob_any a n c q ws w h hl).mono fun _ _ hr => hr.2 hB
end Go.Proofs.Ytnnndooagpkgmaa
