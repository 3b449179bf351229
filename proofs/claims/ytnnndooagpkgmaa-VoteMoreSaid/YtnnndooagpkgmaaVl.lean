/- Layer 3, by the program: Other, Kinds. -/
import Derived.Test.YtnnndooagpkgmaaVk
namespace Go.Proofs.Ytnnndooagpkgmaa
open Go Go.RowKit

theorem enters59 (args : Array Value) (W : World) : (callFunc 59 args).run Try.prog W = .ok (.enter 59 args) W := by go_simp
theorem Other1_any (b6 B n s : Nat) (f : Nat → Bool) (w : World) (h8 : n ≤ 8) (hs : s < pw n) (hG : Blk w b6 60 #[.int .i64 (n : Nat), .slice (some ⟨B, 0, none⟩) (pw n) (pw n)]) (hB : Bools w B (pw n) f) :
    Calls Try.prog 59 #[.int .i64 (s : Nat), .pointer (some ⟨b6, 0, none⟩)] w (Ret (.bool (!(f (pw n - 1 - s)))) w) := by
  have hp8 : pw n ≤ 256 := by have := pw_mono h8; simpa [pw] using this
  have A := Lib.hid (fun W => all_any n B (pw n) W h8)
  have an := i64_andNot_nat (pw n - 1) s (by omega) (by omega)
  rw [dif_full hs] at an
  have x0 := cellX (hB (pw n - 1 - s) (by omega))
  have hti : ((pw n - 1 - s : Nat) : Int) < ((pw n : Nat) : Int) := by omega
  have g0 := cellX (hG.c 0 rfl)
  have g1 := cellX (hG.c 1 rfl)
  obtain ⟨t, ht⟩ : ∃ t, Hid (pw n - 1 - s = t) := ⟨_, Lib.hid rfl⟩
  rw [ht.out] at an x0 hti ⊢
  obtain ⟨M, hM⟩ : ∃ M, Hid (pw n - 1 = M) := ⟨_, Lib.hid rfl⟩
  rw [hM.out] at A an
  clear hs hG hB
  generalize pw n = N at *
  go_enter Try.func59, Try.ntmps59
  go_wp2
  refine wp_region_ext (by kernel_rfl) (by kernel_rfl) ?_
  repeat (go_big_quiet_step ((go_at_call 54; exact callE (A.out _))))
  refine wpQuiet_nil ?_
  rintro ⟨w1, hw1⟩
  dsimp only
  clear x0 g0 g1
  go_wp2
  go_ret
  exact Ret.mk rfl hw1
/-- The sets whose other drovers lose. -/
def othF (f : Nat → Bool) (n s : Nat) : Bool := !(f (pw n - 1 - s))
section
variable (a : Option Addr) (n c m : Nat) (R : List Int) (w : World)
theorem Other_no (x : Int) (h : Ints w a R) (hl : R.length = m) (hm : m ≤ 1000) (hmc : m ≤ c) (hR : ¬ RuleI x R) :
    Calls Try.prog 32 #[.int .i64 x, .slice a m c] w (Ret (errV (.slice none 0 0)) w) := by
  have K := Lib.hid (fun W hW => gor_no a m c x R W hW hl hm hmc hR)
  have h := Lib.hid h
  clear hl
  go_enter Try.func32, Try.ntmps32
  go_wp2_with (go_at_call 56; refine (K.out _ h.out).mono ?_; rintro e w1 ⟨rfl, hb1⟩)
  go_ret2
  exact Ret.mk rfl (nextB hb1 (b1 _ _))
theorem Other_yes (h : Ints w a R) (hl : R.length = m) (hm : m ≤ 1000) (hmc : m ≤ c) (hR : RuleP n R) :
    Calls Try.prog 32 #[.int .i64 (n : Nat), .slice a m c] w (GotI (lN (leastL (othF (hasOne R) n) (pw n))) w) := by
  have h8 : n ≤ 8 := by have := hR.2.1; omega
  have O1 := Lib.hid (fun b6 B s W (hs : s < pw n) (hG : Blk W b6 60 #[.int .i64 (n : Nat), .slice (some ⟨B, 0, none⟩) (pw n) (pw n)]) hB => Other1_any b6 B n s (hasOne R) W h8 hs hG hB)
  have NG := Lib.hid (fun b6 W H => newGame_any n 59 #[.pointer (some ⟨b6, 0, none⟩)] (othF (hasOne R) n) W hR.1 h8 enters59 H)
  have L := Lib.hid (fun B W hW => least_any n B (othF (hasOne R) n) W h8 hW)
  unfold GameR at NG
  have hO : Hid (∀ s, othF (hasOne R) n s = !(hasOne R (pw n - 1 - s))) := Lib.hid (fun _ => rfl)
  obtain ⟨N, hN⟩ : ∃ N, Hid (pw n = N) := ⟨_, Lib.hid rfl⟩
  have K := Lib.hid (fun W hW => gor_at a n c W m R hW hl hm hmc hR N hN.out)
  rw [hN.out] at O1 NG L hO ⊢
  generalize othF (hasOne R) n = g at *
  generalize hasOne R = f at *
  generalize lN (leastL g N) = X at *
  have h := Lib.hid h
  clear hl hR
  go_enter Try.func32, Try.ntmps32
  go_wp2_with (go_at_call 56; refine (K.out _ h.out).mono ?_; rintro e w1 ⟨B, rfl, hg, hBo, hb1⟩; replace hBo := Lib.hid (hBo.next (b1 w1 (.cells #[.int .i64 (n : Nat), .slice (some ⟨B, 0, none⟩) N N] 60))); have hG := Lib.hid (Blk.new w1 60 #[.int .i64 (n : Nat), .slice (some ⟨B, 0, none⟩) N N]); have HN := Lib.hid (NG.out w1.heap.size (w1.alloc (.cells #[.int .i64 (n : Nat), .slice (some ⟨B, 0, none⟩) N N] 60)) (fun W hW s hs => by rw [hO.out]; exact O1.out _ _ _ _ hs (hG.out.ext hW) (hBo.out.next hW))))
  go_wp2_with (first
    | (go_at_call 58; refine HN.out.mono ?_; rintro e w2 ⟨C, rfl, hgC, hBC, hb2⟩; replace hBC := Lib.hid (hBC.next (b1 w2 (.cells #[.int .i64 (n : Nat), .slice (some ⟨C, 0, none⟩) N N] 60))))
    | (go_at_call 46; refine (L.out _ _ hBC.out).mono ?_; rintro e w3 ⟨r, rc, rfl, hrc, hI, hb3⟩; replace hI := Lib.hid hI))
  go_ret2
  exact ⟨r, rc, rfl, hrc, hI.out, nextB hb1 (nextB (b1 _ _) (nextB hb2 (nextB (b1 _ _) hb3)))⟩
end
/-- The kinds. -/
def noneP (f : Nat → Bool) (N d : Nat) : Bool := cnt (turnB f d) N == 0
def everyP (f : Nat → Bool) (N d : Nat) : Bool := !(f (N - 1 - pw d))
def aloneP (f : Nat → Bool) (d : Nat) : Bool := f (pw d)
theorem Kinds_no (q : Int) (a : Option Addr) (n c : Nat) (ws : List Int) (w : World) (h : Ints w a ws) (hl : ws.length = n) (hB : ¬ BodyP q ws) :
    Calls Try.prog 26 #[bodyV q a n c] w (Ret (.tuple #[.int .i64 0, .int .i64 0, .int .i64 0, .int .i64 2]) w) := by
  have K := Lib.hid (fun W hW => gob_no a n c q ws W hW hl hB)
  have h := Lib.hid h
  clear hl
  go_enter Try.func26, Try.ntmps26
  go_wp2_with (go_at_call 43; refine (K.out _ (h.out.next (b1 _ _))).mono ?_; rintro e w1 ⟨rfl, hb1⟩)
  refine bodyPost_ret (v := .tuple #[.int .i64 0, .int .i64 0, .int .i64 0, .int .i64 2]) (by simp [results, Try.results26, go_sem]) rfl ?_
  exact Ret.mk rfl (nextB (b1 _ _) (nextB hb1 (b1 _ _)))
end Go.Proofs.Ytnnndooagpkgmaa
