/- Layer 3, by the specification: Kinds. -/
import Derived.Test.YtnnndooagpkgmaaWl
import Derived.Test.YtnnndooagpkgmaaLw
namespace Go.Proofs.Ytnnndooagpkgmaa
open Go Go.RowKit

theorem refKinds_no (q : Int) (a : Option Addr) (n c : Nat) (ws : List Int) (w : World) (h : Ints w a ws) (hl : ws.length = n) (hn : n ≤ 30) (hB : ¬ BodyP q ws) :
    Calls Try.prog 27 #[bodyV q a n c] w (Ret (.tuple #[.int .i64 0, .int .i64 0, .int .i64 0, .int .i64 2]) w) := by
  have K := Lib.hid (fun W hW => refTurns_no q a n c ws W hW hl hn hB)
  have h := Lib.hid h
  clear hl
  go_enter Try.func27, Try.ntmps27
  go_wp2_with (go_at_call 23; refine (K.out _ (h.out.next (b1 _ _))).mono ?_; rintro e w1 ⟨rfl, hb1⟩)
  refine bodyPost_ret (v := .tuple #[.int .i64 0, .int .i64 0, .int .i64 0, .int .i64 2]) (by simp [results, Try.results27, go_sem]) rfl ?_
  exact Ret.mk rfl (nextB (b1 _ _) hb1)
def RefKindsIn (f : Nat → Bool) (n N : Nat) (q : Int) (a : Option Addr) (c : Nat) (r : Option Addr) (w : World) (x y v i : Value) (wr : World) : Prop :=
  ∃ k : Nat, k ≤ n ∧ i = .int .i64 k ∧ x = .int .i64 ((setOf (noneP f N) k : Nat) : Int) ∧ y = .int .i64 ((setOf (everyP f N) k : Nat) : Int) ∧ v = .int .i64 ((setOf (aloneP f) k : Nat) : Int) ∧
    Ints wr r (listI (turnI f N) n) ∧ Blk wr w.heap.size 24 #[.int .i64 q, .slice a n c] ∧ Below w.heap.size w wr
set_option maxRecDepth 100000 in
set_option maxHeartbeats 8000000 in
theorem refKinds_yes (q : Int) (a : Option Addr) (n c : Nat) (ws : List Int) (w : World) (h : Ints w a ws) (hl : ws.length = n) (hB : BodyP q ws) :
    Calls Try.prog 27 #[bodyV q a n c] w (Ret (.tuple #[.int .i64 ((setOf (noneP (winB q ws) (pw n)) n : Nat) : Int), .int .i64 ((setOf (everyP (winB q ws) (pw n)) n : Nat) : Int), .int .i64 ((setOf (aloneP (winB q ws)) n : Nat) : Int), .int .i64 0]) w) := by
  have h8 : n ≤ 8 := by have := hB.2.1; omega
  have hp8 : pw n ≤ 256 := by have := pw_mono h8; simpa [pw] using this
  have hN0 := pw_pos n
  have K := Lib.hid (fun W hW => (refTurns_yes q a n c ws W hW hl hB).mono fun _ _ k => k.at (listI_length _ _))
  have V := Lib.hid (fun W hW s (hs : s < 65536) => refwins_any q a n c s ws W hW hl h8 hB.2.2.1 hs)
  have hpl := Lib.hid (fun d (hd : d < n) => (show pw d < pw n from pw_lt hd))
  have sh := wrap_shl (k := n) (by omega)
  have X := Lib.hid (Blk.new w 24 #[.int .i64 q, .slice a n c])
  obtain ⟨N, hN⟩ : ∃ N, Hid (pw n = N) := ⟨_, Lib.hid rfl⟩
  rw [hN.out] at hp8 hN0 hpl sh K ⊢
  generalize winB q ws = f at *
  have h := Lib.hid h
  clear hl hB
  go_enter Try.func27, Try.ntmps27
  go_wp2_with (go_at_call 23; refine (K.out _ (h.out.next (b1 _ _))).mono ?_; rintro e w1 ⟨r, rc, rfl, hrc, hI, hb1⟩; replace hI := Lib.hid hI; have X1 := X.out.ext hb1; have x0 := X1.c 0 rfl; have x1 := X1.c 1 rfl)
  have B1 := nextB (b1 w (.cells #[.int .i64 q, .slice a n c] 24)) hb1
  clear hb1 x0 x1
  go_loopw [9, 10, 11, 12] (fun x y v i wr => RefKindsIn f n N q a c r w x y v i wr) (fun _ _ _ i _ => n - (intOf i).toNat)
  case atStart => exact ⟨0, by omega, rfl, rfl, rfl, rfl, hI.out, X1, B1⟩
  case round =>
    clear X1 B1 hI
    obtain ⟨k, hk, rfl, rfl, rfl, rfl, hI, X1, B1⟩ := hrel
    have x0 := X1.c 0 rfl
    have x1 := X1.c 1 rfl
    replace X1 := Lib.hid X1
    by_cases hlt : k < n
    · have hki : (k : Int) < (n : Int) := by omega
      have ht0 := ints_at hI (by rw [listI_length]; omega)
      obtain ⟨tb, toff, rfl, hc⟩ := ht0
      have t0 := hc k (by rw [listI_length]; omega)
      rw [listI_nth hlt] at t0
      replace hI := Lib.hid hI
      replace hc := Lib.hid hc
      have shj : IntKind.i64.wrap ((2 : Int) ^ k) = ((pw k : Nat) : Int) := by rw [pw_int]; exact wrap_pw (by omega)
      have hpk := hpl.out k hlt
      have hS1 := setOf_lt (noneP f N) k
      have hS2 := setOf_lt (everyP f N) k
      have hS3 := setOf_lt (aloneP f) k
      have s1 := Lib.hid (show setOf (noneP f N) (k + 1) = setOf (noneP f N) k + if noneP f N k then pw k else 0 from rfl)
      have s2 := Lib.hid (show setOf (everyP f N) (k + 1) = setOf (everyP f N) k + if everyP f N k then pw k else 0 from rfl)
      have s3 := Lib.hid (show setOf (aloneP f) (k + 1) = setOf (aloneP f) k + if aloneP f k then pw k else 0 from rfl)
      have o1 : IntKind.i64.wrap (((setOf (noneP f N) k : Nat) : Int) + ((pw k : Nat) : Int)) = ((setOf (noneP f N) k + pw k : Nat) : Int) := by rw [IntWalk.i64_in _ (by omega)]; omega
      have o2 : IntKind.i64.wrap (((setOf (everyP f N) k : Nat) : Int) + ((pw k : Nat) : Int)) = ((setOf (everyP f N) k + pw k : Nat) : Int) := by rw [IntWalk.i64_in _ (by omega)]; omega
      have o3 : IntKind.i64.wrap (((setOf (aloneP f) k : Nat) : Int) + ((pw k : Nat) : Int)) = ((setOf (aloneP f) k + pw k : Nat) : Int) := by rw [IntWalk.i64_in _ (by omega)]; omega
      have m1 : IntKind.i64.wrap ((N : Int) - 1) = ((N - 1 : Nat) : Int) := by rw [IntWalk.i64_in _ (by omega)]; omega
      have m2 : IntKind.i64.wrap (((N - 1 : Nat) : Int) - ((pw k : Nat) : Int)) = ((N - 1 - pw k : Nat) : Int) := by rw [IntWalk.i64_in _ (by omega)]; omega
      have e1 : noneP f N k = (cnt (turnB f k) N == 0) := rfl
      have e2 : everyP f N k = !(f (N - 1 - pw k)) := rfl
      have e3 : aloneP f k = f (pw k) := rfl
      have e4 : (turnI f N k == 0) = (cnt (turnB f k) N == 0) := beq_nat (cnt (turnB f k) N) 0
      rw [← e1] at e4
      rw [e2] at s2
      rw [e3] at s3
      have V2 := Lib.hid (fun W hW => V.out W hW (N - 1 - pw k) (by omega))
      have V3 := Lib.hid (fun W hW => V.out W hW (pw k) (by omega))
      generalize turnI f N k = tv at *
      generalize setOf (noneP f N) k = X at *
      generalize setOf (everyP f N) k = Y at *
      generalize setOf (aloneP f) k = Z at *
      obtain ⟨M, hM⟩ : ∃ M, Hid (N - 1 = M) := ⟨_, Lib.hid rfl⟩
      rw [hM.out] at m1 m2 V2 s2 e2
      obtain ⟨u, hu⟩ : ∃ u, Hid (M - pw k = u) := ⟨_, Lib.hid rfl⟩
      rw [hu.out] at m2 V2 s2 e2
      cases p1 : noneP f N k <;> cases p2 : f u <;> cases p3 : f (pw k)
      all_goals
        rw [p1] at e4 s1
        rw [p2] at V2 s2
        rw [p3] at V3 s3
        have hP := Lib.hid (And.intro p1 (And.intro p2 p3))
        clear e1 e2 e3 p1 p2 p3
        have y0 := cellX x0
        have y1 := cellX x1
        go_wp2
        refine wp_region_ext (by kernel_rfl) (by kernel_rfl) ?_
        repeat (go_big_quiet_step ((go_at_call 45; with_reducible exact callE (V2.out _ ((h.out.next B1).next (Ext.ok _))))))
        refine wpQuiet_nil ?_
        rintro ⟨w3, hb3⟩
        dsimp only
        clear y0 y1
        replace x0 := cellB hb3 x0
        replace x1 := cellB hb3 x1
        have y0 := cellX x0
        have y1 := cellX x1
        go_wp2
        refine wp_region_ext (by kernel_rfl) (by kernel_rfl) ?_
        repeat (go_big_quiet_step ((go_at_call 45; with_reducible exact callE (V3.out _ (((h.out.next B1).next hb3).next (Ext.ok _))))))
        refine wpQuiet_nil ?_
        rintro ⟨w4, hb4⟩
        dsimp only
        clear y0 y1
        have B4 := nextB B1 (nextB hb3 hb4)
        have X4 := Lib.hid ((X1.out.ext hb3).ext hb4)
        have hI4 := Lib.hid ((hI.out.next hb3).next hb4)
        go_wp2
        go_roundw
        case rel => exact ⟨k + 1, by omega, by go_num, by rw [s1.out]; rfl, by rw [s2.out]; rfl, by rw [s3.out]; rfl, hI4.out, X4.out, B4⟩
        case measure => simp [intOf]; omega
    · obtain rfl : k = n := by omega
      replace hI := Lib.hid hI
      go_wp2
      refine bodyPost_ret (v := .tuple #[.int .i64 ((setOf (noneP f N) k : Nat) : Int), .int .i64 ((setOf (everyP f N) k : Nat) : Int), .int .i64 ((setOf (aloneP f) k : Nat) : Int), .int .i64 0]) (by simp [results, Try.results27, go_sem]) rfl ?_
      exact Ret.mk rfl B1
end Go.Proofs.Ytnnndooagpkgmaa
