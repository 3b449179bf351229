/- Layer 3, by the program: Kinds. -/
import Derived.Test.YtnnndooagpkgmaaVl
namespace Go.Proofs.Ytnnndooagpkgmaa
open Go Go.RowKit

def KindsIn (f : Nat → Bool) (n N B z : Nat) (w : World) (x y v i : Value) (wr : World) : Prop :=
  ∃ k : Nat, k ≤ n ∧ i = .int .i64 k ∧ x = .int .i64 ((setOf (noneP f N) k : Nat) : Int) ∧ y = .int .i64 ((setOf (everyP f N) k : Nat) : Int) ∧ v = .int .i64 ((setOf (aloneP f) k : Nat) : Int) ∧
    Blk wr z 60 #[.int .i64 (n : Nat), .slice (some ⟨B, 0, none⟩) N N] ∧ Bools wr B N f ∧ Below w.heap.size w wr
set_option maxRecDepth 100000 in
set_option maxHeartbeats 8000000 in
theorem Kinds_yes (q : Int) (a : Option Addr) (n c : Nat) (ws : List Int) (w : World) (h : Ints w a ws) (hl : ws.length = n) (hB : BodyP q ws) :
    Calls Try.prog 26 #[bodyV q a n c] w (Ret (.tuple #[.int .i64 ((setOf (noneP (winB q ws) (pw n)) n : Nat) : Int), .int .i64 ((setOf (everyP (winB q ws) (pw n)) n : Nat) : Int), .int .i64 ((setOf (aloneP (winB q ws)) n : Nat) : Int), .int .i64 0]) w) := by
  have h8 : n ≤ 8 := by have := hB.2.1; omega
  have hp8 : pw n ≤ 256 := by have := pw_mono h8; simpa [pw] using this
  have T := Lib.hid (fun B d W (hd : d < n) hW => turned_any n B d (winB q ws) W h8 hd hW)
  have AL := Lib.hid (fun B N W => all_any n B N W h8)
  have hdf := Lib.hid (fun d (hd : d < n) => dif_full (n := n) (pw_lt hd))
  have hpl := Lib.hid (fun d (hd : d < n) => (show pw d < pw n from pw_lt hd))
  have hN0 := pw_pos n
  obtain ⟨N, hN⟩ : ∃ N, Hid (pw n = N) := ⟨_, Lib.hid rfl⟩
  have K := Lib.hid (fun W hW => gob_at q a n c ws W hW hl hB N hN.out)
  rw [hN.out] at T hp8 AL hdf hN0 hpl ⊢
  generalize winB q ws = f at *
  have h := Lib.hid h
  clear hl hB
  go_enter Try.func26, Try.ntmps26
  go_wp2_with (go_at_call 43; refine (K.out _ (h.out.next (b1 _ _))).mono ?_; rintro e w1 ⟨B, rfl, hg, hBo, hb1⟩; replace hBo := Lib.hid hBo)
  have G0 := Blk.new w1 60 #[.int .i64 (n : Nat), .slice (some ⟨B, 0, none⟩) N N]
  have hBo2 := Lib.hid (hBo.out.next (b1 w1 (.cells #[.int .i64 (n : Nat), .slice (some ⟨B, 0, none⟩) N N] 60)))
  have B1 := nextB (b1 w (.cells #[.int .i64 q, .slice a n c] 24)) (nextB hb1 (b1 w1 (.cells #[.int .i64 (n : Nat), .slice (some ⟨B, 0, none⟩) N N] 60)))
  clear hBo
  generalize hgs : w1.heap.size = z at *
  clear hgs
  go_loopw [8, 9, 10, 11, 12, 22] (fun x y v _ _ i wr => KindsIn f n N B z w x y v i wr) (fun _ _ _ _ _ i _ => n - (intOf i).toNat)
  case atStart => exact ⟨0, by omega, rfl, rfl, rfl, rfl, G0, hBo2.out, B1⟩
  case round =>
    clear G0 hBo2 B1
    obtain ⟨k, hk, rfl, rfl, rfl, rfl, G0, hBo, B1⟩ := hrel
    have g0 := G0.c 0 rfl
    have g1 := G0.c 1 rfl
    replace hBo := Lib.hid hBo
    replace G0 := Lib.hid G0
    by_cases hlt : k < n
    · have hki : (k : Int) < (n : Int) := by omega
      have sh := wrap_shl (k := k) (by omega)
      have hpk := hpl.out k hlt
      have hS1 := Lib.hid (setOf_lt (noneP f N) k)
      have hS2 := Lib.hid (setOf_lt (everyP f N) k)
      have hS3 := Lib.hid (setOf_lt (aloneP f) k)
      have o1 := i64_or_nat (setOf (noneP f N) k) (pw k) (by have := hS1.out; omega) (by omega)
      have o2 := i64_or_nat (setOf (everyP f N) k) (pw k) (by have := hS2.out; omega) (by omega)
      have o3 := i64_or_nat (setOf (aloneP f) k) (pw k) (by have := hS3.out; omega) (by omega)
      rw [setOf_or] at o1 o2 o3
      have s1 := Lib.hid (show setOf (noneP f N) (k + 1) = setOf (noneP f N) k + if noneP f N k then pw k else 0 from rfl)
      have s2 := Lib.hid (show setOf (everyP f N) (k + 1) = setOf (everyP f N) k + if everyP f N k then pw k else 0 from rfl)
      have s3 := Lib.hid (show setOf (aloneP f) (k + 1) = setOf (aloneP f) k + if aloneP f k then pw k else 0 from rfl)
      generalize setOf (noneP f N) k = X at *
      generalize setOf (everyP f N) k = Y at *
      generalize setOf (aloneP f) k = Z at *
      have an := i64_andNot_nat (N - 1) (pw k) (by omega) (by omega)
      rw [hdf.out k hlt] at an
      have hti : ((N - 1 - pw k : Nat) : Int) < (N : Int) := by omega
      have hpi : ((pw k : Nat) : Int) < (N : Int) := by omega
      have TT := Lib.hid (fun W hW => T.out B k W hlt hW)
      have e1 : noneP f N k = (cnt (turnB f k) N == 0) := rfl
      have e2 : everyP f N k = !(f (N - 1 - pw k)) := rfl
      have e3 : aloneP f k = f (pw k) := rfl
      have hx2 := hBo.out (N - 1 - pw k) (by omega)
      have hx3 := hBo.out (pw k) hpk
      have e4 := beq_nat (cnt (turnB f k) N) 0
      obtain ⟨t, ht⟩ : ∃ t, Hid (N - 1 - pw k = t) := ⟨_, Lib.hid rfl⟩
      obtain ⟨M, hM⟩ : ∃ M, Hid (N - 1 = M) := ⟨_, Lib.hid rfl⟩
      have hAL := Lib.hid (fun W => AL.out B N W)
      rw [ht.out] at an hti e2 hx2
      rw [hM.out] at an hAL
      generalize cnt (turnB f k) N = cn at *
      rw [← e1] at e4
      rw [e2] at s2
      rw [e3] at s3
      cases p1 : noneP f N k <;> cases p2 : f t <;> cases p3 : f (pw k)
      all_goals
        rw [p1] at e4 s1
        rw [p2] at hx2 s2
        rw [p3] at hx3 s3
        have hP := Lib.hid (And.intro p1 (And.intro p2 p3))
        clear e1 e2 e3 p1 p2 p3
        replace e4 : ((cn : Int) == 0) = _ := e4
        have hBl : B < wr.heap.size := block_lt_of_cell hx2
        go_wp2_with (go_at_call 47; refine (TT.out _ hBo.out).mono ?_; rintro e w2 ⟨rfl, hb2⟩; replace hx2 := cellB hb2 hx2; replace hx3 := cellB hb2 hx3; replace g0 := cellB hb2 g0; replace g1 := cellB hb2 g1; have y2 := cellX hx2; have y0 := cellX g0; have y1 := cellX g1)
        refine wp_region_ext (by kernel_rfl) (by kernel_rfl) ?_
        repeat (go_big_quiet_step ((go_at_call 54; exact callE (hAL.out _))))
        refine wpQuiet_nil ?_
        rintro ⟨w3, hb3⟩
        dsimp only
        clear y0 y1 y2
        replace hx3 := cellB hb3 hx3
        replace g0 := cellB hb3 g0
        replace g1 := cellB hb3 g1
        have B3 := nextB B1 (nextB hb2 hb3)
        have G3 := Lib.hid ((G0.out.ext hb2).ext hb3)
        have hBo3 := Lib.hid ((hBo.out.next hb2).next hb3)
        go_wp2
        go_roundw
        case rel => exact ⟨k + 1, by omega, by go_num, by rw [s1.out]; rfl, by rw [s2.out]; rfl, by rw [s3.out]; rfl, G3.out, hBo3.out, B3⟩
        case measure => simp [intOf]; omega
    · obtain rfl : k = n := by omega
      go_wp2
      refine bodyPost_ret (v := .tuple #[.int .i64 ((setOf (noneP f N) k : Nat) : Int), .int .i64 ((setOf (everyP f N) k : Nat) : Int), .int .i64 ((setOf (aloneP f) k : Nat) : Int), .int .i64 0]) (by simp [results, Try.results26, go_sem]) rfl ?_
      exact Ret.mk rfl B1
end Go.Proofs.Ytnnndooagpkgmaa
