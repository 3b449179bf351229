/- Layer 3, by the program: Power. -/
import Derived.Test.YtnnndooagpkgmaaVy
namespace Go.Proofs.Ytnnndooagpkgmaa
open Go Go.RowKit

theorem infoRatio : (Try.prog.info? 38).map (fun i => (i.zero, i.size, i.bytes)) = some (some (.agg #[.int .i64 0, .int .i64 0]), 2, 16) := by kernel_rfl
/-- The numbers of pairs, one after another. -/
def flat2 (x : Nat → Int × Int) (j : Nat) : Int := if j % 2 = 0 then (x (j / 2)).1 else (x (j / 2)).2
theorem flat2_l (x : Nat → Int × Int) (k : Nat) : flat2 x (k * 2) = (x k).1 := by unfold flat2; rw [if_pos (by omega), show k * 2 / 2 = k by omega]
theorem flat2_r (x : Nat → Int × Int) (k : Nat) : flat2 x (k * 2 + 1) = (x k).2 := by unfold flat2; rw [if_neg (by omega), show (k * 2 + 1) / 2 = k by omega]
abbrev cP (x : Nat → Int × Int) (k m : Nat) : Array Value := cU (fun j => .int .i64 (flat2 x j)) (.int .i64 0) (k * 2) (m * 2)
theorem make_rats (m : Nat) (hm : m ≤ 1000000) (x : Nat → Int × Int) (W : World) : (Instr.makeSlice 34 (.int .i64 (m : Int)) (.int .i64 (m : Int))).run Try.prog W = .ok (.slice (some ⟨W.heap.size, 0, none⟩) m m) (W.alloc (.cells (cP x 0 m) 38)) := by
  obtain ⟨i0, hi, hz0, hz1, hz2⟩ := info_parts infoRatio
  rw [run_make W 34 38 i0 _ Try.underlying34 hi hz0 .i64 .i64 m m (by omega) (by omega) (by rw [hz2]; omega) (by omega)]
  have e : madeCells (Value.agg #[.int .i64 0, .int .i64 0]).cells (m * 2) = cP x 0 m := by
    apply Array.ext
    · simp [madeCells, cU]
    · intro i h1 h2
      have h3 : i % 2 = 0 ∨ i % 2 = 1 := by omega
      rcases h3 with h3 | h3 <;> simp [madeCells, cU, Value.cells, h3]
  simp only [Int.toNat_natCast, hz1, e]
theorem Blk.setP {W : World} {B m k : Nat} {t : TypeId} {x : Nat → Int × Int} (h : Blk W B t (cP x k m)) : Blk ((W.setCell ⟨B, k * 2, none⟩ (.int .i64 (x k).1)).setCell ⟨B, k * 2 + 1, none⟩ (.int .i64 (x k).2)) B t (cP x (k + 1) m) := by
  have h1 := h.setU
  rw [flat2_l] at h1
  have h2 := h1.setU
  rw [flat2_r] at h2
  have e : (k + 1) * 2 = k * 2 + 1 + 1 := by omega
  unfold cP
  rw [e]
  exact h2
/-- The part of all orders. -/
def powR (f : Nat → Bool) (n e : Nat) : Int × Int := (((ordM f n n 0 e / Nat.gcd (ordM f n n 0 e) (fac n) : Nat) : Int), ((fac n / Nat.gcd (ordM f n n 0 e) (fac n) : Nat) : Int))
/-- The slice at a holds these ratios. -/
def Rats (w : World) (a : Option Addr) (x : Nat → Int × Int) (n : Nat) : Prop :=
  n = 0 ∨ ∃ b off, a = some ⟨b, off, none⟩ ∧ ∀ i, i < n → w.cell? ⟨b, off + i * 2, none⟩ = some (.int .i64 (x i).1) ∧ w.cell? ⟨b, off + i * 2 + 1, none⟩ = some (.int .i64 (x i).2)
def GotRat (x : Nat → Int × Int) (n : Nat) (w : World) (e : Ending) (w' : World) : Prop := ∃ a c, e = .returned (.tuple #[.slice a n c, .int .i64 0]) ∧ n ≤ c ∧ Rats w' a x n ∧ Below w.heap.size w w'
theorem Power_no (q : Int) (a : Option Addr) (n c : Nat) (ws : List Int) (w : World) (h : Ints w a ws) (hl : ws.length = n) (hB : ¬ BodyP q ws) :
    Calls Try.prog 24 #[bodyV q a n c] w (Ret (errV (.slice none 0 0)) w) := by
  have K := Lib.hid (fun W hW => gob_no a n c q ws W hW hl hB)
  have h := Lib.hid h
  clear hl
  go_enter Try.func24, Try.ntmps24
  go_wp2_with (go_at_call 43; refine (K.out _ (h.out.next (b1 _ _))).mono ?_; rintro e w1 ⟨rfl, hb1⟩)
  go_ret2
  exact Ret.mk rfl (nextB (b1 _ _) (nextB hb1 (b1 _ _)))
set_option maxRecDepth 100000 in
set_option maxHeartbeats 4000000 in
theorem Power_yes (q : Int) (a : Option Addr) (n c : Nat) (ws : List Int) (w : World) (h : Ints w a ws) (hl : ws.length = n) (hB : BodyP q ws) :
    Calls Try.prog 24 #[bodyV q a n c] w (GotRat (powR (winB q ws) n) n w) := by
  have h8 : n ≤ 8 := by have := hB.2.1; omega
  have O := Lib.hid (fun B W hW => orders_any n B (winB q ws) W h8 hW)
  obtain ⟨N, hN⟩ : ∃ N, Hid (pw n = N) := ⟨_, Lib.hid rfl⟩
  have K := Lib.hid (fun W hW => gob_at q a n c ws W hW hl hB N hN.out)
  rw [hN.out] at O
  have FA := Lib.hid (fun W => factorial_any n W h8)
  have hfp := fac_pos n
  have hfl := fac_le h8
  have hole := Lib.hid (fun e => (show ordM (winB q ws) n n 0 e ≤ 1000000000000 by
    have h1 := ordM_le (winB q ws) n h8 n h8 0 e
    have h2 := bnd_le h8
    omega))
  have RA := Lib.hid (fun e W => ratio_any (ordM (winB q ws) n n 0 e) (fac n) W (hole.out e) hfp hfl)
  have hp : Hid (∀ e, powR (winB q ws) n e = (((ordM (winB q ws) n n 0 e / Nat.gcd (ordM (winB q ws) n n 0 e) (fac n) : Nat) : Int), ((fac n / Nat.gcd (ordM (winB q ws) n n 0 e) (fac n) : Nat) : Int))) := Lib.hid fun _ => rfl
  generalize hx : powR (winB q ws) n = x at *
  replace RA := Lib.hid (fun e W => (show Calls Try.prog 49 #[.int .i64 ((ordM (winB q ws) n n 0 e : Nat) : Int), .int .i64 ((fac n : Nat) : Int)] W (Ret (ratV (x e).1 (x e).2) W) by rw [hp.out]; exact RA.out e W))
  clear hp hx
  generalize ordM (winB q ws) n n 0 = od at *
  generalize winB q ws = f at *
  have hmk := make_rats n (by omega) x
  have h := Lib.hid h
  clear hl hB
  go_enter Try.func24, Try.ntmps24
  go_wp2_with (first
    | (go_at_call 43; refine (K.out _ (h.out.next (b1 _ _))).mono ?_; rintro e w1 ⟨B, rfl, hg, hBo, hb1⟩; replace hBo := Lib.hid (hBo.next (b2 w1 (.cells #[.int .i64 (n : Nat), .slice (some ⟨B, 0, none⟩) N N] 60) (.cells (cP x 0 n) 38))))
    | (go_at_call 48; refine (O.out _ _ hBo.out).mono ?_; rintro e w2 ⟨C, rfl, hC, hb2⟩; replace hC := Lib.hid hC))
  have hP := (two_box w1 #[.int .i64 (n : Nat), .slice (some ⟨B, 0, none⟩) N N] (cP x 0 n) 60 38).ext hb2
  have hG := ((Blk.new w1 60 #[.int .i64 (n : Nat), .slice (some ⟨B, 0, none⟩) N N]).alloc (.cells (cP x 0 n) 38)).ext hb2
  have hBl := nextB (b1 w (.cells #[.int .i64 q, .slice a n c] 24)) (nextB hb1 (nextB (b2 _ _ _) hb2))
  have hCP : C ≠ w1.heap.size + 1 := fun e => by
    have h1 := hC.out
    subst e
    have := h1.symm.trans hP
    simp at this
  have hsz := hb1.size
  have hzw : w.heap.size ≤ w1.heap.size := by have := hb1.size; simp at this; omega
  clear hmk hb1 hb2 hsz
  generalize w1.heap.size = z at *
  go_loopw [7, 8, 22] (fun _ _ i wr => ∃ k : Nat, k ≤ n ∧ i = .int .i64 k ∧ Blk wr (z + 1) 38 (cP x k n) ∧ Blk wr z 60 #[.int .i64 (n : Nat), .slice (some ⟨B, 0, none⟩) N N] ∧ Blk wr C 3 (cN od n) ∧ Below w.heap.size w wr) (fun _ _ i _ => n - (intOf i).toNat)
  case atStart => exact ⟨0, by omega, rfl, hP, hG, hC.out, hBl⟩
  case round =>
    clear hP hG hBl hC
    obtain ⟨k, hk, rfl, hP, hG, hC, hBl⟩ := hrel
    by_cases hlt : k < n
    · have hki : (k : Int) < (n : Int) := by omega
      have c0 := hC.c k (cN_get hlt)
      have g0 := hG.c 0 rfl
      have RK := Lib.hid (fun W => RA.out k W)
      obtain ⟨u, hu⟩ : ∃ u, Hid (od k = u) := ⟨_, Lib.hid rfl⟩
      rw [hu.out] at c0 RK
      replace hP := Lib.hid hP
      replace hC := Lib.hid hC
      replace hG := Lib.hid hG
      go_wp2_with (first
        | (go_at_call 50; refine (FA.out _).mono ?_; rintro e w3 ⟨rfl, rfl⟩)
        | (go_at_call 49; refine (RK.out _).mono ?_; rintro e w3 ⟨rfl, hb3⟩; have hP3 := hP.out.ext hb3; have p0 := hP3.c (k * 2) (cU_get (by omega)); have p1 := hP3.c (k * 2 + 1) (cU_get (by omega)); have pf0 := hP3.fr (k * 2); have pf1 := hP3.fr (k * 2 + 1); have pl := hP3.lt; have hS := Lib.hid hP3.setP; replace hP3 := Lib.hid hP3))
      have hG3 := ((hG.out.ext hb3).other (B' := z + 1) (i := k * 2) (by omega) (.int .i64 (x k).1)).other (B' := z + 1) (i := k * 2 + 1) (by omega) (.int .i64 (x k).2)
      have hC3 := ((hC.out.ext hb3).other (B' := z + 1) (i := k * 2) hCP (.int .i64 (x k).1)).other (B' := z + 1) (i := k * 2 + 1) hCP (.int .i64 (x k).2)
      have hB3 := ((nextB hBl hb3).setCell (p := ⟨z + 1, k * 2, none⟩) (show w.heap.size ≤ z + 1 by omega) (.int .i64 (x k).1)).setCell (p := ⟨z + 1, k * 2 + 1, none⟩) (show w.heap.size ≤ z + 1 by omega) (.int .i64 (x k).2)
      go_roundw
      case rel => exact ⟨k + 1, by omega, by go_num, hS.out, hG3, hC3, hB3⟩
      case measure => simp [intOf]; omega
    · obtain rfl : k = n := by omega
      go_wp2_with fail
      go_ret2
      refine ⟨some ⟨z + 1, 0, none⟩, k, rfl, Nat.le_refl _, .inr ⟨z + 1, 0, rfl, fun i hi => ?_⟩, hBl⟩
      have e0 := hP.c (i * 2) (cU_get (k := k * 2) (m := k * 2) (by omega))
      have e1 := hP.c (i * 2 + 1) (cU_get (k := k * 2) (m := k * 2) (by omega))
      rw [if_pos (by omega), flat2_l] at e0
      rw [if_pos (by omega), flat2_r] at e1
      rw [Nat.zero_add]
      exact ⟨e0, e1⟩
end Go.Proofs.Ytnnndooagpkgmaa
