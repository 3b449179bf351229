/- Layer 3, by the program: Same, Other, Kinds. -/
import Derived.Test.YtnnndooagpkgmaaVi
namespace Go.Proofs.Ytnnndooagpkgmaa
open Go Go.RowKit

theorem equal_ne (B C N M : Nat) (w : World) (h : N ≠ M) :
    Calls Try.prog 55 #[.slice (some ⟨B, 0, none⟩) N N, .slice (some ⟨C, 0, none⟩) M M] w (Only (.bool false) w) := by
  have hne : ((N : Int) != (M : Int)) = true := by rw [bne_iff_ne]; omega
  replace h := Lib.hid h
  go_enter Try.func55, Try.ntmps55
  go_wp2
  go_ret
  exact Only.mk rfl
theorem two_box (w : World) (cs ds : Array Value) (t u : TypeId) : Blk ((w.alloc (.cells cs t)).alloc (.cells ds u)) (w.heap.size + 1) u ds := by
  have := Blk.new (w.alloc (.cells cs t)) u ds
  simpa using this
section
variable (q p : Int) (a b : Option Addr) (n c m d : Nat) (ws vs : List Int) (w : World)
theorem Same_no1 (h : Ints w a ws) (hl : ws.length = n) (h' : Ints w b vs) (hl' : vs.length = m) (hB : ¬ BodyP q ws) :
    Calls Try.prog 28 #[bodyV q a n c, bodyV p b m d] w (Ret (errV (.bool false)) w) := by
  have K := Lib.hid (fun W hW => gob_no a n c q ws W hW hl hB)
  have K2 := Lib.hid (fun W hW => gob_any b m d p vs W hW hl')
  have X := Lib.hid (two_box w #[.int .i64 q, .slice a n c] #[.int .i64 p, .slice b m d] 24 24)
  have h := Lib.hid h
  have h' := Lib.hid h'
  clear hl hl'
  by_cases hB2 : BodyP p vs
  · have K2 := Lib.hid (fun W hW => (K2.out W hW).mono fun e w' hr => hr.1 hB2)
    generalize vs.length = m' at *
    go_enter Try.func28, Try.ntmps28
    go_wp2_with (first
      | (go_at_call 43; (with_reducible refine (K.out _ (h.out.next (b2 _ _ _))).mono ?_); rintro e w1 ⟨rfl, hb1⟩; have Y := X.out.ext hb1; have y0 := Y.c 0 rfl; have y1 := Y.c 1 rfl; have y2 := Y.lt; replace Y := Lib.hid Y)
      | (go_at_call 43; (with_reducible refine (K2.out _ (h'.out.next (nextB (b2 _ _ _) (nextB hb1 (b1 _ _))))).mono ?_); rintro e w2 ⟨B2, rfl, hg2, hBo2, hb2⟩; replace hBo2 := Lib.hid hBo2))
    go_ret2
    exact Ret.mk rfl (nextB (b2 _ _ _) (nextB hb1 (nextB (b1 _ _) (nextB hb2 (b1 _ _)))))
  · have K2 := Lib.hid (fun W hW => (K2.out W hW).mono fun e w' hr => hr.2 hB2)
    go_enter Try.func28, Try.ntmps28
    go_wp2_with (first
      | (go_at_call 43; (with_reducible refine (K.out _ (h.out.next (b2 _ _ _))).mono ?_); rintro e w1 ⟨rfl, hb1⟩; have Y := X.out.ext hb1; have y0 := Y.c 0 rfl; have y1 := Y.c 1 rfl; have y2 := Y.lt; replace Y := Lib.hid Y)
      | (go_at_call 43; (with_reducible refine (K2.out _ (h'.out.next (nextB (b2 _ _ _) (nextB hb1 (b1 _ _))))).mono ?_); rintro e w2 ⟨rfl, hb2⟩))
    go_ret2
    exact Ret.mk rfl (nextB (b2 _ _ _) (nextB hb1 (nextB (b1 _ _) (nextB hb2 (b1 _ _)))))
theorem Same_no2 (h : Ints w a ws) (hl : ws.length = n) (h' : Ints w b vs) (hl' : vs.length = m) (hB : BodyP q ws) (hB2 : ¬ BodyP p vs) :
    Calls Try.prog 28 #[bodyV q a n c, bodyV p b m d] w (Ret (errV (.bool false)) w) := by
  obtain ⟨N, hN⟩ : ∃ N, Hid (pw n = N) := ⟨_, Lib.hid rfl⟩
  have K := Lib.hid (fun W hW => gob_at q a n c ws W hW hl hB N hN.out)
  have K2 := Lib.hid (fun W hW => gob_no b m d p vs W hW hl' hB2)
  have X := Lib.hid (two_box w #[.int .i64 q, .slice a n c] #[.int .i64 p, .slice b m d] 24 24)
  have h := Lib.hid h
  have h' := Lib.hid h'
  clear hl hl'
  go_enter Try.func28, Try.ntmps28
  go_wp2_with (first
    | (go_at_call 43; (with_reducible refine (K.out _ (h.out.next (b2 _ _ _))).mono ?_); rintro e w1 ⟨B, rfl, hg, hBo, hb1⟩; replace hBo := Lib.hid hBo; have Y := X.out.ext hb1; have y0 := Y.c 0 rfl; have y1 := Y.c 1 rfl; have y2 := Y.lt; replace Y := Lib.hid Y)
    | (go_at_call 43; (with_reducible refine (K2.out _ (h'.out.next (nextB (b2 _ _ _) (nextB hb1 (b1 _ _))))).mono ?_); rintro e w2 ⟨rfl, hb2⟩))
  go_ret2
  exact Ret.mk rfl (nextB (b2 _ _ _) (nextB hb1 (nextB (b1 _ _) (nextB hb2 (b1 _ _)))))
theorem Same_yes (h : Ints w a ws) (hl : ws.length = n) (h' : Ints w b vs) (hl' : vs.length = m) (hB : BodyP q ws) (hB2 : BodyP p vs) :
    Calls Try.prog 28 #[bodyV q a n c, bodyV p b m d] w (Ret (.tuple #[.bool (decide (n = m ∧ sameB (winB q ws) (winB p vs) (pw n))), .int .i64 0]) w) := by
  have h8 : n ≤ 8 := by have := hB.2.1; omega
  have hp8 : pw n ≤ 256 := by have := pw_mono h8; simpa [pw] using this
  have hmn : n ≠ m → pw n ≠ pw m := fun hne h2 => by
    rcases Nat.lt_or_gt_of_ne hne with h3 | h3
    · have := pw_lt h3; omega
    · have := pw_lt h3; omega
  by_cases hnm : n = m
  · have hR : Hid (decide (n = m ∧ sameB (winB q ws) (winB p vs) (pw n)) = decide (sameB (winB q ws) (winB p vs) (pw n))) := Lib.hid (by simp only [hnm, true_and])
    rw [hR.out]
    clear hR
    obtain ⟨N, hN⟩ : ∃ N, Hid (pw n = N) := ⟨_, Lib.hid rfl⟩
    have K := Lib.hid (fun W hW => gob_at q a n c ws W hW hl hB N hN.out)
    have K2 := Lib.hid (fun W hW => gob_at p b m d vs W hW hl' hB2 N (by rw [← hnm]; exact hN.out))
    rw [hN.out] at hp8 ⊢
    generalize winB q ws = f at *
    generalize winB p vs = g at *
    have E := Lib.hid (fun B C W hW hW' => equal_any B C N f g W hW hW' (by omega))
    have X := Lib.hid (two_box w #[.int .i64 q, .slice a n c] #[.int .i64 p, .slice b m d] 24 24)
    have h := Lib.hid h
    have h' := Lib.hid h'
    clear hl hl' hmn hnm
    go_enter Try.func28, Try.ntmps28
    go_wp2_with (first
      | (go_at_call 43; (with_reducible refine (K.out _ (h.out.next (b2 _ _ _))).mono ?_); rintro e w1 ⟨B, rfl, hg, hBo, hb1⟩; replace hBo := Lib.hid hBo; have Y := X.out.ext hb1; have y0 := Y.c 0 rfl; have y1 := Y.c 1 rfl; have y2 := Y.lt; replace Y := Lib.hid Y)
      | (go_at_call 43; (with_reducible refine (K2.out _ (h'.out.next (nextB (b2 _ _ _) (nextB hb1 (b1 _ _))))).mono ?_); rintro e w2 ⟨B2, rfl, hg2, hBo2, hb2⟩; replace hBo2 := Lib.hid hBo2; have Z := (Blk.new w1 60 #[.int .i64 (n : Nat), .slice (some ⟨B, 0, none⟩) N N]).ext hb2; have z0 := Z.c 0 rfl; have z1 := Z.c 1 rfl; have z2 := Z.lt; replace Z := Lib.hid Z)
      | (go_at_call 55; (with_reducible refine (E.out _ _ _ (hBo.out.next (nextB (b1 _ _) (nextB hb2 (b1 _ _)))) (hBo2.out.next (b1 _ _))).mono ?_); rintro e w3 ⟨rfl, hb3⟩))
    go_ret2
    exact Ret.mk rfl (nextB (b2 _ _ _) (nextB hb1 (nextB (b1 _ _) (nextB hb2 (nextB (b1 _ _) hb3)))))
  · have hR : Hid (decide (n = m ∧ sameB (winB q ws) (winB p vs) (pw n)) = false) := Lib.hid (decide_eq_false (fun h => hnm h.1))
    rw [hR.out]
    clear hR
    have hne := Lib.hid (hmn hnm)
    obtain ⟨N, hN⟩ : ∃ N, Hid (pw n = N) := ⟨_, Lib.hid rfl⟩
    obtain ⟨M, hM⟩ : ∃ M, Hid (pw m = M) := ⟨_, Lib.hid rfl⟩
    have K := Lib.hid (fun W hW => gob_at q a n c ws W hW hl hB N hN.out)
    have K2 := Lib.hid (fun W hW => gob_at p b m d vs W hW hl' hB2 M hM.out)
    rw [hN.out, hM.out] at hne
    have E := Lib.hid (fun B C W => equal_ne B C N M W hne.out)
    have X := Lib.hid (two_box w #[.int .i64 q, .slice a n c] #[.int .i64 p, .slice b m d] 24 24)
    have h := Lib.hid h
    have h' := Lib.hid h'
    clear hl hl' hmn hnm
    go_enter Try.func28, Try.ntmps28
    go_wp2_with (first
      | (go_at_call 43; (with_reducible refine (K.out _ (h.out.next (b2 _ _ _))).mono ?_); rintro e w1 ⟨B, rfl, hg, hBo, hb1⟩; replace hBo := Lib.hid hBo; have Y := X.out.ext hb1; have y0 := Y.c 0 rfl; have y1 := Y.c 1 rfl; have y2 := Y.lt; replace Y := Lib.hid Y)
      | (go_at_call 43; (with_reducible refine (K2.out _ (h'.out.next (nextB (b2 _ _ _) (nextB hb1 (b1 _ _))))).mono ?_); rintro e w2 ⟨B2, rfl, hg2, hBo2, hb2⟩; replace hBo2 := Lib.hid hBo2; have Z := (Blk.new w1 60 #[.int .i64 (n : Nat), .slice (some ⟨B, 0, none⟩) N N]).ext hb2; have z0 := Z.c 0 rfl; have z1 := Z.c 1 rfl; have z2 := Z.lt; replace Z := Lib.hid Z)
      | (go_at_call 55; (with_reducible refine (E.out _ _ _).mono ?_); rintro e w3 ⟨rfl, rfl⟩))
    go_ret2
    exact Ret.mk rfl (nextB (b2 _ _ _) (nextB hb1 (nextB (b1 _ _) (nextB hb2 (b1 _ _)))))
end
end Go.Proofs.Ytnnndooagpkgmaa
