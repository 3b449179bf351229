/- Layer 3, by the program: Wins, Least, Turns, Rules. -/
import Derived.Test.YtnnndooagpkgmaaVg
namespace Go.Proofs.Ytnnndooagpkgmaa
open Go Go.RowKit

abbrev bodyV (q : Int) (a : Option Addr) (n c : Nat) : Value := .agg #[.int .i64 q, .slice a n c]
/-- A list of numbers was returned, without an error. -/
def GotI (L : List Int) (w : World) (e : Ending) (w' : World) : Prop := ∃ a c, e = .returned (.tuple #[.slice a L.length c, .int .i64 0]) ∧ L.length ≤ c ∧ Ints w' a L ∧ Below w.heap.size w w'
abbrev errV (v : Value) : Value := .tuple #[v, .int .i64 2]
section
variable (q : Int) (a : Option Addr) (n c : Nat) (ws : List Int) (w : World)
theorem Wins_no (s : Int) (h : Ints w a ws) (hl : ws.length = n) (hB : ¬ BodyP q ws) :
    Calls Try.prog 17 #[bodyV q a n c, .int .i64 s] w (Ret (errV (.bool false)) w) := by
  have K := Lib.hid (fun W hW => gob_no a n c q ws W hW hl hB)
  have h := Lib.hid h
  clear hl
  go_enter Try.func17, Try.ntmps17
  go_wp2_with (go_at_call 43; refine (K.out _ (h.out.next (b1 _ _))).mono ?_; rintro e w1 ⟨rfl, hb1⟩)
  go_ret2
  exact Ret.mk rfl (nextB (b1 _ _) (nextB hb1 (b1 _ _)))
theorem Least_no (h : Ints w a ws) (hl : ws.length = n) (hB : ¬ BodyP q ws) :
    Calls Try.prog 19 #[bodyV q a n c] w (Ret (errV (.slice none 0 0)) w) := by
  have K := Lib.hid (fun W hW => gob_no a n c q ws W hW hl hB)
  have h := Lib.hid h
  clear hl
  go_enter Try.func19, Try.ntmps19
  go_wp2_with (go_at_call 43; refine (K.out _ (h.out.next (b1 _ _))).mono ?_; rintro e w1 ⟨rfl, hb1⟩)
  go_ret2
  exact Ret.mk rfl (nextB (b1 _ _) (nextB hb1 (b1 _ _)))
theorem Turns_no (h : Ints w a ws) (hl : ws.length = n) (hB : ¬ BodyP q ws) :
    Calls Try.prog 22 #[bodyV q a n c] w (Ret (errV (.slice none 0 0)) w) := by
  have K := Lib.hid (fun W hW => gob_no a n c q ws W hW hl hB)
  have h := Lib.hid h
  clear hl
  go_enter Try.func22, Try.ntmps22
  go_wp2_with (go_at_call 43; refine (K.out _ (h.out.next (b1 _ _))).mono ?_; rintro e w1 ⟨rfl, hb1⟩)
  go_ret2
  exact Ret.mk rfl (nextB (b1 _ _) (nextB hb1 (b1 _ _)))
/-- The game of a body, with its sizes as they are spelled. -/
theorem gob_at (h : Ints w a ws) (hl : ws.length = n) (hB : BodyP q ws) (N : Nat) (hN : pw n = N) :
    Calls Try.prog 43 #[bodyV q a n c] w (fun e w' => ∃ B, e = .returned (.tuple #[.agg #[.int .i64 (n : Nat), .slice (some ⟨B, 0, none⟩) N N], .bool true]) ∧ w.heap.size ≤ B ∧ Bools w' B N (winB q ws) ∧ Below w.heap.size w w') := by
  have := gob_yes a n c q ws w h hl hB
  unfold BodyR at this
  rw [hl, hN] at this
  exact this
theorem gor_at (m : Nat) (R : List Int) (h : Ints w a R) (hl : R.length = m) (hm : m ≤ 1000) (hmc : m ≤ c) (hR : RuleP n R) (N : Nat) (hN : pw n = N) :
    Calls Try.prog 56 #[.int .i64 (n : Nat), .slice a m c] w (fun e w' => ∃ B, e = .returned (.tuple #[.agg #[.int .i64 (n : Nat), .slice (some ⟨B, 0, none⟩) N N], .bool true]) ∧ w.heap.size ≤ B ∧ Bools w' B N (hasOne R) ∧ Below w.heap.size w w') := by
  have := gor_yes a m c n R w h hl hm hmc hR
  unfold RuleR at this
  rw [hN] at this
  exact this
theorem Wins_out (s : Int) (h : Ints w a ws) (hl : ws.length = n) (hB : BodyP q ws) (hs : ¬ (0 ≤ s ∧ s < ((pw n : Nat) : Int))) :
    Calls Try.prog 17 #[bodyV q a n c, .int .i64 s] w (Ret (errV (.bool false)) w) := by
  have h8 : n ≤ 8 := by have := hB.2.1; omega
  obtain ⟨N, hN⟩ : ∃ N, Hid (pw n = N) := ⟨_, Lib.hid rfl⟩
  have K := Lib.hid (fun W hW => gob_at q a n c ws W hW hl hB N hN.out)
  have A := Lib.hid (fun B W => knows_any n B N s W h8)
  rw [decide_eq_false hs] at A
  have h := Lib.hid h
  clear hl hs
  go_enter Try.func17, Try.ntmps17
  go_wp2_with (first
    | (go_at_call 43; refine (K.out _ (h.out.next (b1 _ _))).mono ?_; rintro e w1 ⟨B, rfl, hg, hBo, hb1⟩; replace hBo := Lib.hid hBo)
    | (go_at_call 44; refine (A.out _ _).mono ?_; rintro e w2 ⟨rfl, hb2⟩))
  go_ret2
  exact Ret.mk rfl (nextB (b1 _ _) (nextB hb1 (nextB (b1 _ _) hb2)))
theorem Wins_yes (s : Nat) (h : Ints w a ws) (hl : ws.length = n) (hB : BodyP q ws) (hs : s < pw n) :
    Calls Try.prog 17 #[bodyV q a n c, .int .i64 (s : Nat)] w (Ret (.tuple #[.bool (winB q ws s), .int .i64 0]) w) := by
  have h8 : n ≤ 8 := by have := hB.2.1; omega
  obtain ⟨N, hN⟩ : ∃ N, Hid (pw n = N) := ⟨_, Lib.hid rfl⟩
  have K := Lib.hid (fun W hW => gob_at q a n c ws W hW hl hB N hN.out)
  have A := Lib.hid (fun B W => knows_any n B N s W h8)
  rw [decide_eq_true (show 0 ≤ (s : Int) ∧ (s : Int) < ((pw n : Nat) : Int) by omega)] at A
  have h := Lib.hid h
  rw [hN.out] at hs
  have hsi : (s : Int) < (N : Int) := by omega
  clear hl
  go_enter Try.func17, Try.ntmps17
  go_wp2_with (first
    | (go_at_call 43; refine (K.out _ (h.out.next (b1 _ _))).mono ?_; rintro e w1 ⟨B, rfl, hg, hBo, hb1⟩; replace hBo := Lib.hid (hBo.next (b1 w1 (.cells #[.int .i64 (n : Nat), .slice (some ⟨B, 0, none⟩) N N] 60))); have hg0 := Lib.hid (Blk.new w1 60 #[.int .i64 (n : Nat), .slice (some ⟨B, 0, none⟩) N N]))
    | (go_at_call 44; refine (A.out _ _).mono ?_; rintro e w2 ⟨rfl, hb2⟩; have x0 := (hBo.out.next hb2) s hs; have x1 := (hg0.out.ext hb2).c 1 rfl))
  go_ret2
  exact Ret.mk rfl (nextB (b1 _ _) (nextB hb1 (nextB (b1 _ _) hb2)))
theorem Least_yes (h : Ints w a ws) (hl : ws.length = n) (hB : BodyP q ws) :
    Calls Try.prog 19 #[bodyV q a n c] w (GotI (lN (leastL (winB q ws) (pw n))) w) := by
  have h8 : n ≤ 8 := by have := hB.2.1; omega
  have L := Lib.hid (fun B W hW => least_any n B (winB q ws) W h8 hW)
  obtain ⟨N, hN⟩ : ∃ N, Hid (pw n = N) := ⟨_, Lib.hid rfl⟩
  have K := Lib.hid (fun W hW => gob_at q a n c ws W hW hl hB N hN.out)
  rw [hN.out] at L ⊢
  have h := Lib.hid h
  clear hl
  generalize lN (leastL (winB q ws) N) = R at *
  go_enter Try.func19, Try.ntmps19
  go_wp2_with (first
    | (go_at_call 43; refine (K.out _ (h.out.next (b1 _ _))).mono ?_; rintro e w1 ⟨B, rfl, hg, hBo, hb1⟩; replace hBo := Lib.hid (hBo.next (b1 w1 (.cells #[.int .i64 (n : Nat), .slice (some ⟨B, 0, none⟩) N N] 60))))
    | (go_at_call 46; refine (L.out _ _ hBo.out).mono ?_; rintro e w2 ⟨r, rc, rfl, hrc, hI, hb2⟩; replace hI := Lib.hid hI))
  go_ret2
  exact ⟨r, rc, rfl, hrc, hI.out, nextB (b1 _ _) (nextB hb1 (nextB (b1 _ _) hb2))⟩
theorem Rules_no (m : Nat) (x s : Int) (R : List Int) (h : Ints w a R) (hl : R.length = m) (hm : m ≤ 1000) (hmc : m ≤ c) (hR : ¬ RuleI x R) :
    Calls Try.prog 30 #[.int .i64 x, .slice a m c, .int .i64 s] w (Ret (errV (.bool false)) w) := by
  have K := Lib.hid (fun W hW => gor_no a m c x R W hW hl hm hmc hR)
  have h := Lib.hid h
  clear hl
  go_enter Try.func30, Try.ntmps30
  go_wp2_with (go_at_call 56; refine (K.out _ h.out).mono ?_; rintro e w1 ⟨rfl, hb1⟩)
  go_ret2
  exact Ret.mk rfl (nextB hb1 (b1 _ _))
theorem Rules_out (m : Nat) (s : Int) (R : List Int) (h : Ints w a R) (hl : R.length = m) (hm : m ≤ 1000) (hmc : m ≤ c) (hR : RuleP n R) (hs : ¬ (0 ≤ s ∧ s < ((pw n : Nat) : Int))) :
    Calls Try.prog 30 #[.int .i64 (n : Nat), .slice a m c, .int .i64 s] w (Ret (errV (.bool false)) w) := by
  have h8 : n ≤ 8 := by have := hR.2.1; omega
  obtain ⟨N, hN⟩ : ∃ N, Hid (pw n = N) := ⟨_, Lib.hid rfl⟩
  have K := Lib.hid (fun W hW => gor_at a n c W m R hW hl hm hmc hR N hN.out)
  have A := Lib.hid (fun B W => knows_any n B N s W h8)
  rw [decide_eq_false hs] at A
  have h := Lib.hid h
  clear hl hs
  go_enter Try.func30, Try.ntmps30
  go_wp2_with (first
    | (go_at_call 56; refine (K.out _ h.out).mono ?_; rintro e w1 ⟨B, rfl, hg, hBo, hb1⟩; replace hBo := Lib.hid hBo)
    | (go_at_call 44; refine (A.out _ _).mono ?_; rintro e w2 ⟨rfl, hb2⟩))
  go_ret2
  exact Ret.mk rfl (nextB hb1 (nextB (b1 _ _) hb2))
theorem Rules_yes (m s : Nat) (R : List Int) (h : Ints w a R) (hl : R.length = m) (hm : m ≤ 1000) (hmc : m ≤ c) (hR : RuleP n R) (hs : s < pw n) :
    Calls Try.prog 30 #[.int .i64 (n : Nat), .slice a m c, .int .i64 (s : Nat)] w (Ret (.tuple #[.bool (hasOne R s), .int .i64 0]) w) := by
  have h8 : n ≤ 8 := by have := hR.2.1; omega
  obtain ⟨N, hN⟩ : ∃ N, Hid (pw n = N) := ⟨_, Lib.hid rfl⟩
  have K := Lib.hid (fun W hW => gor_at a n c W m R hW hl hm hmc hR N hN.out)
  have A := Lib.hid (fun B W => knows_any n B N s W h8)
  rw [decide_eq_true (show 0 ≤ (s : Int) ∧ (s : Int) < ((pw n : Nat) : Int) by omega)] at A
  have h := Lib.hid h
  rw [hN.out] at hs
  have hsi : (s : Int) < (N : Int) := by omega
  clear hl
  go_enter Try.func30, Try.ntmps30
  go_wp2_with (first
    | (go_at_call 56; refine (K.out _ h.out).mono ?_; rintro e w1 ⟨B, rfl, hg, hBo, hb1⟩; replace hBo := Lib.hid (hBo.next (b1 w1 (.cells #[.int .i64 (n : Nat), .slice (some ⟨B, 0, none⟩) N N] 60))); have hg0 := Lib.hid (Blk.new w1 60 #[.int .i64 (n : Nat), .slice (some ⟨B, 0, none⟩) N N]))
    | (go_at_call 44; refine (A.out _ _).mono ?_; rintro e w2 ⟨rfl, hb2⟩; have x0 := (hBo.out.next hb2) s hs; have x1 := (hg0.out.ext hb2).c 1 rfl))
  go_ret2
  exact Ret.mk rfl (nextB hb1 (nextB (b1 _ _) hb2))
end
end Go.Proofs.Ytnnndooagpkgmaa
