/- BrandsPtolemy: Ptolemy's rule for the numbers of a brand; 1 exactly between corners that are joined: the walk. -/
import Derived.Test.YtflbaadfbjpakaaMh
import Derived.Test.YtflbaadfbjpakaaEd
namespace Go.Proofs.Ytflbaadfbjpakaa
open Go Go.RowKit

/-- How far the four numbers are sorted, after a rounds and b steps of the next one. -/
def Sort4 (a b : Nat) (y0 y1 y2 y3 : Int) : Prop :=
  ((1 ≤ a → y0 ≤ y3 ∧ y1 ≤ y3 ∧ y2 ≤ y3) ∧ (2 ≤ a → y0 ≤ y2 ∧ y1 ≤ y2) ∧ (3 ≤ a → y0 ≤ y1)) ∧
  (b = 1 → y0 ≤ y1) ∧ (b = 2 → y0 ≤ y2 ∧ y1 ≤ y2) ∧ (b = 3 → y0 ≤ y3 ∧ y1 ≤ y3 ∧ y2 ≤ y3) ∧ (1 ≤ a ∧ b = 3 → y0 ≤ y2 ∧ y1 ≤ y2) ∧ (2 ≤ a ∧ 2 ≤ b → y0 ≤ y1)
theorem sort4_end {a : Nat} {y0 y1 y2 y3 : Int} (h : Sort4 a 3 y0 y1 y2 y3) : Sort4 (a + 1) 0 y0 y1 y2 y3 := by unfold Sort4 at *; omega
theorem sort4_done {y0 y1 y2 y3 : Int} (h : Sort4 4 0 y0 y1 y2 y3) : y0 ≤ y1 ∧ y1 ≤ y2 ∧ y2 ≤ y3 := by unfold Sort4 at *; omega
theorem sort4_start (y0 y1 y2 y3 : Int) : Sort4 0 0 y0 y1 y2 y3 := by unfold Sort4; omega
theorem sort4_0 {a : Nat} {y0 y1 y2 y3 : Int} (h : Sort4 a 0 y0 y1 y2 y3) : (y1 < y0 → Sort4 a 1 y1 y0 y2 y3) ∧ (y0 ≤ y1 → Sort4 a 1 y0 y1 y2 y3) := by unfold Sort4 at *; omega
theorem sort4_1 {a : Nat} {y0 y1 y2 y3 : Int} (h : Sort4 a 1 y0 y1 y2 y3) : (y2 < y1 → Sort4 a 2 y0 y2 y1 y3) ∧ (y1 ≤ y2 → Sort4 a 2 y0 y1 y2 y3) := by unfold Sort4 at *; omega
theorem sort4_2 {a : Nat} {y0 y1 y2 y3 : Int} (h : Sort4 a 2 y0 y1 y2 y3) : (y3 < y2 → Sort4 a 3 y0 y1 y3 y2) ∧ (y2 ≤ y3 → Sort4 a 3 y0 y1 y2 y3) := by unfold Sort4 at *; omega
/-- Below 16, all four. -/
def In4 (y0 y1 y2 y3 : Int) : Prop := (0 ≤ y0 ∧ y0 ≤ 15) ∧ (0 ≤ y1 ∧ y1 ≤ 15) ∧ (0 ≤ y2 ∧ y2 ≤ 15) ∧ (0 ≤ y3 ∧ y3 ≤ 15)
theorem wrap_ptolemy {p q t : Int} (h : p = q + t) : wrap64 p = wrap64 (wrap64 q + wrap64 t) := by
  unfold wrap64 at *
  omega
theorem ints_other {w : World} {g G i : Nat} {xs : List Int} {v : Value} (h : Ints w (some ⟨g, 0, none⟩) xs) (hne : g ≠ G) : Ints (w.setCell ⟨G, i, none⟩ v) (some ⟨g, 0, none⟩) xs := by
  rcases h with h | ⟨b, off, e, hc⟩
  · exact .inl h
  · cases e
    have hb : (w.setCell ⟨G, i, none⟩ v).heap[g]? = w.heap[g]? := Below.heap_setCell w ⟨G, i, none⟩ v g (show g ≠ G from hne)
    exact .inr ⟨g, 0, rfl, fun k hk => (World.cell?_of_block (a := ⟨g, _, none⟩) hb).trans (hc k hk)⟩
set_option maxRecDepth 100000 in
set_option maxHeartbeats 4000000 in
theorem ptolemy_law (n : Int) (a : Option Addr) (len cap : Nat) (L : List (Int × Int)) (s : Nat) (w : World) (h : Prs w a L) (hl : L.length = len) (hcap : len ≤ cap) (_hnil : a = none → cap = 0) (hs : s ≤ 65535) :
    Calls Try.prog 13 #[.int .i64 n, .slice a len cap, .int .u16 s] w (Ret (.bool true) w) := by
  by_cases hgo : len ≤ 60 ∧ BrandP n L
  · obtain ⟨h60, hB⟩ := hgo
    have hk3 := hB.1
    have hk12 := hB.2.1
    obtain ⟨n, rfl⟩ : ∃ m : Nat, n = m := ⟨n.toNat, by omega⟩
    have I := Lib.hid (show Calls _ _ _ w (Ret (.bool true) w) from by
      have := refIsBrand_any n a len cap L w h hl (by omega)
      rwa [decide_eq_true hB] at this)
    have hR := brand_roundP hB
    have RR := Lib.hid (fun W (hW : Below w.heap.size w W) => Round_yes n a len cap L W (h.next hW) hl hcap hB)
    have NR := Lib.hid (fun W (hW : Below w.heap.size w W) (i k : Nat) (hi : i < n) (hk : k < n) (hik : i ≠ k) => refNear_any a len cap L n i k W (h.next hW) hl (by omega) (by omega) (by omega) (by omega) (by omega) (by omega) (by omega))
    have BC := Lib.hid (fun (i k : Nat) (hi : i < n) (hk : k < n) (hik : i ≠ k) => (brand_choices hB hi hk hik).2.2)
    have BT := Lib.hid (fun g W (hI : Ints W (some ⟨g, 0, none⟩) (roundL n L)) (i k : Nat) (hi : i < n) (hk : k < n) => show Calls Try.prog 30 #[.slice (some ⟨g, 0, none⟩) n n, .int .i64 (min (i : Int) k), .int .i64 (max (i : Int) k)] W (Ret (.tuple #[.int .i64 (eE (roundL n L) i k), .int .i64 0]) W) from by
      have := Between_yes (some ⟨g, 0, none⟩) n n (min i k) (max i k - min i k) (roundL n L) W hI (roundL_length n L) hR (by omega) (by omega)
      rw [show ((min i k : Nat) : Int) = min (i : Int) k by omega, show min (i : Int) k + ((max i k - min i k : Nat) : Int) = max (i : Int) k by omega] at this
      exact this)
    have PT := Lib.hid (fun (i j k l : Nat) (h1 : i < j) (h2 : j < k) (h3 : k < l) => show eE (roundL n L) i k * eE (roundL n L) j l = eE (roundL n L) i j * eE (roundL n L) k l + eE (roundL n L) i l * eE (roundL n L) j k from by
      rw [eE_le _ (by omega), eE_le _ (by omega), eE_le _ (by omega), eE_le _ (by omega), eE_le _ (by omega), eE_le _ (by omega)]
      exact eD_ptolemy _ (by omega) (by omega) (by omega))
    clear h hl hR
    generalize eE (roundL n L) = v at *
    go_enter Try.func13, Try.ntmps13
    go_wp2_with (go_at_call 19; refine I.out.mono ?_; rintro e w1 ⟨rfl, hb1⟩)
    refine (RR.out _ hb1).mono ?_
    intro e w2 hg
    obtain ⟨g, rfl, hI, hb2⟩ := gotR_ints hg
    dsimp only
    replace hb2 := nextB hb1 hb2
    clear hg hb1
    go_wp2_with fail
    refine wp_region_ext (by kernel_rfl) (by kernel_rfl) ?_
    repeat (go_big_quiet_step (fail))
    refine wpQuiet_nil ?_
    rintro ⟨w3, hw3⟩
    dsimp only
    replace hI := hI.next hw3
    replace hb2 := nextB hb2 hw3
    clear hw3
    obtain ⟨i, hi, hin⟩ : ∃ i : Nat, (s : Int) % (n : Int) = (i : Int) ∧ i < n := by
      have h1 := Int.emod_nonneg (s : Int) (show (n : Int) ≠ 0 by omega)
      have h2 := Int.emod_lt_of_pos (s : Int) (show (0 : Int) < n by omega)
      exact ⟨((s : Int) % (n : Int)).toNat, by omega, by omega⟩
    obtain ⟨k, hk, hkn⟩ : ∃ k : Nat, (s : Int) / 16 % (n : Int) = (k : Int) ∧ k < n := by
      have h1 := Int.emod_nonneg ((s : Int) / 16) (show (n : Int) ≠ 0 by omega)
      have h2 := Int.emod_lt_of_pos ((s : Int) / 16) (show (0 : Int) < n by omega)
      exact ⟨((s : Int) / 16 % (n : Int)).toNat, by omega, by omega⟩
    simp only [hi, hk]
    clear hi hk
    have hcase : ((i : Int) != (k : Int)) = false ∨ (((i : Int) != (k : Int)) = true ∧ i ≠ k) := by
      by_cases e : i = k
      · left; subst e; simp
      · right; exact ⟨by rw [bne_iff_ne]; omega, e⟩
    rcases hcase with g1 | ⟨g1, hik⟩
    case' inl =>
      clear NR BC
      go_wp2_with fail
      obtain ⟨WW, hWW⟩ : ∃ WW, WW = w3 := ⟨_, rfl⟩
      subst hWW
    case' inr =>
      obtain ⟨nb, hnb⟩ : ∃ nb, nb = decide (NearP (n : Int) L i k) := ⟨_, rfl⟩
      have hv : (v i k == 1) = nb := by
        have := BC.out i k hin hkn hik
        rw [hnb, Bool.eq_iff_iff, beq_iff_eq, decide_eq_true_iff]
        exact this
      have N1 := Lib.hid (fun W (hW : Below w.heap.size w W) => NR.out W hW i k hin hkn hik)
      rw [← hnb] at N1
      have B1 := Lib.hid (BT.out g w3 hI i k hin hkn)
      clear NR BC hnb
      go_wp2_with (first
        | (go_at_call 30; refine B1.out.mono ?_; rintro e w4 ⟨rfl, hb4⟩; have hb5 := nextB hb2 hb4)
        | (go_at_call 45; refine (N1.out _ hb5).mono ?_; rintro e w5 ⟨rfl, rfl⟩))
      replace hI := hI.next hb4
      clear hb2 hb4 N1 B1 hv
      have hb2 := hb5
      clear hb5
      obtain ⟨WW, hWW⟩ : ∃ WW, WW = w4 := ⟨_, rfl⟩
      subst hWW
    all_goals (
      have X0 : Blk (WW.alloc (.cells #[.int .i64 ((s : Int) % 16), .int .i64 ((s : Int) / 16 % 16), .int .i64 ((s : Int) / 256 % 16), .int .i64 ((s : Int) / 4096 % 16)] 3)) WW.heap.size 3 (cI [(s : Int) % 16, (s : Int) / 16 % 16, (s : Int) / 256 % 16, (s : Int) / 4096 % 16]) := Blk.new _ _ _
      have BA := b1 WW (.cells #[.int .i64 ((s : Int) % 16), .int .i64 ((s : Int) / 16 % 16), .int .i64 ((s : Int) / 256 % 16), .int .i64 ((s : Int) / 4096 % 16)] 3)
      have hgG : g ≠ WW.heap.size := by
        rcases hI with hI0 | ⟨b, off, e, hc⟩
        · rw [roundL_length] at hI0; omega
        · cases e
          have := block_lt_of_cell (hc 0 (by rw [roundL_length]; omega))
          simp at this
          omega
      replace hI := hI.next BA
      have hG := hb2.size
      have B0 := nextB hb2 BA
      have hin4 : In4 ((s : Int) % 16) ((s : Int) / 16 % 16) ((s : Int) / 256 % 16) ((s : Int) / 4096 % 16) := by unfold In4; omega
      have hs4 := sort4_start ((s : Int) % 16) ((s : Int) / 16 % 16) ((s : Int) / 256 % 16) ((s : Int) / 4096 % 16)
      generalize (s : Int) % 16 = y0 at *
      generalize (s : Int) / 16 % 16 = y1 at *
      generalize (s : Int) / 256 % 16 = y2 at *
      generalize (s : Int) / 4096 % 16 = y3 at *
      generalize hWA : WW.alloc (.cells #[.int .i64 y0, .int .i64 y1, .int .i64 y2, .int .i64 y3] 3) = WA at *
      clear hWA BA hb2
      generalize WW.heap.size = G at *
      go_loopw [14] (fun a wr => ∃ (A : Nat) (y0 y1 y2 y3 : Int), A ≤ 4 ∧ a = .int .i64 A ∧ In4 y0 y1 y2 y3 ∧ Sort4 A 0 y0 y1 y2 y3 ∧ Blk wr G 3 (cI [y0, y1, y2, y3]) ∧ Ints wr (some ⟨g, 0, none⟩) (roundL n L) ∧ Below w.heap.size w wr) (fun a _ => 4 - (intOf a).toNat)
      case atStart => exact ⟨0, y0, y1, y2, y3, by omega, rfl, hin4, hs4, X0, hI, B0⟩
      case round =>
        clear X0 hI B0 hin4 hs4
        obtain ⟨A, y0, y1, y2, y3, hA, rfl, hin4, hs4, X0, hI, B0⟩ := hrel
        by_cases hlt : A < 4
        · have hA4 : decide ((A : Int) < 4) = true := decide_eq_true (by omega)
          go_wp2_with fail
          go_loopw [15, 16] (fun b _ wr => ∃ (y0 y1 y2 y3 : Int), In4 y0 y1 y2 y3 ∧ Blk wr G 3 (cI [y0, y1, y2, y3]) ∧ Ints wr (some ⟨g, 0, none⟩) (roundL n L) ∧ Below w.heap.size w wr ∧
            ((b = .int .i64 0 ∧ Sort4 A 0 y0 y1 y2 y3) ∨ (b = .int .i64 1 ∧ Sort4 A 1 y0 y1 y2 y3) ∨ (b = .int .i64 2 ∧ Sort4 A 2 y0 y1 y2 y3) ∨ (b = .int .i64 3 ∧ Sort4 A 3 y0 y1 y2 y3))) (fun b _ _ => 3 - (intOf b).toNat)
          case atStart => exact ⟨y0, y1, y2, y3, hin4, X0, hI, B0, .inl ⟨rfl, hs4⟩⟩
          case round =>
            clear X0 hI B0 hin4 hs4
            obtain ⟨y0, y1, y2, y3, hin4, X0, hI, B0, hb⟩ := hrel
            rcases hb with ⟨rfl, hs⟩ | ⟨rfl, hs⟩ | ⟨rfl, hs⟩ | ⟨rfl, hs⟩
            · have x0 := cellX (show wr.cell? ⟨G, 0, none⟩ = some (.int .i64 y0) from X0.c 0 rfl)
              have x1 := cellX (show wr.cell? ⟨G, 1, none⟩ = some (.int .i64 y1) from X0.c 1 rfl)
              obtain ⟨s1, s2⟩ := sort4_0 hs
              by_cases hc : y1 < y0
              · have s3 := s1 hc
                clear s1 s2 hs
                go_wp2_with fail
                refine wp_region_ext (by kernel_rfl) (by kernel_rfl) ?_
                repeat (go_big_quiet_step (fail))
                refine wpQuiet_nil ?_
                rintro ⟨w5, hw5⟩
                dsimp only
                have X1 := X0.ext hw5
                have e0 : w5.cell? ⟨G, 0, none⟩ = some (.int .i64 y0) := X1.c 0 rfl
                have e1 : w5.cell? ⟨G, 1, none⟩ = some (.int .i64 y1) := X1.c 1 rfl
                have f0 := X1.fr 0
                have f1 := X1.fr 1
                have I1 := ints_other (i := 0) (v := .int .i64 y1) (hI.next hw5) hgG
                have I2 := ints_other (i := 1) (v := .int .i64 y0) I1 hgG
                have B1 := nextB B0 hw5
                have B2 := Blk.setB (i := 0) (v := .int .i64 y1) B1 hG
                have B3 := Blk.setB (i := 1) (v := .int .i64 y0) B2 hG
                have X2 : Blk _ G 3 (cI [y1, y0, y2, y3]) := (X1.setI 0 y1 (by simp)).setI 1 y0 (by simp)
                clear x0 x1 hI X0 B0 B1 I1 X1 hw5 B2
                go_wp2_with fail
                go_roundw
                case rel => exact ⟨y1, y0, y2, y3, by unfold In4 at *; omega, X2, I2, B3, .inr (.inl ⟨rfl, s3⟩)⟩
                case measure => simp [intOf]
              · have s3 := s2 (by omega)
                clear s1 s2 hs
                go_wp2_with fail
                refine wp_region_ext (by kernel_rfl) (by kernel_rfl) ?_
                repeat (go_big_quiet_step (fail))
                refine wpQuiet_nil ?_
                rintro ⟨w5, hw5⟩
                dsimp only
                have X1 := X0.ext hw5
                have I1 := hI.next hw5
                have B1 := nextB B0 hw5
                clear x0 x1 hI X0 B0 hw5
                go_wp2_with fail
                go_roundw
                case rel => exact ⟨y0, y1, y2, y3, hin4, X1, I1, B1, .inr (.inl ⟨rfl, s3⟩)⟩
                case measure => simp [intOf]
            · have x0 := cellX (show wr.cell? ⟨G, 1, none⟩ = some (.int .i64 y1) from X0.c 1 rfl)
              have x1 := cellX (show wr.cell? ⟨G, 2, none⟩ = some (.int .i64 y2) from X0.c 2 rfl)
              obtain ⟨s1, s2⟩ := sort4_1 hs
              by_cases hc : y2 < y1
              · have s3 := s1 hc
                clear s1 s2 hs
                go_wp2_with fail
                refine wp_region_ext (by kernel_rfl) (by kernel_rfl) ?_
                repeat (go_big_quiet_step (fail))
                refine wpQuiet_nil ?_
                rintro ⟨w5, hw5⟩
                dsimp only
                have X1 := X0.ext hw5
                have e0 : w5.cell? ⟨G, 1, none⟩ = some (.int .i64 y1) := X1.c 1 rfl
                have e1 : w5.cell? ⟨G, 2, none⟩ = some (.int .i64 y2) := X1.c 2 rfl
                have f0 := X1.fr 1
                have f1 := X1.fr 2
                have I1 := ints_other (i := 1) (v := .int .i64 y2) (hI.next hw5) hgG
                have I2 := ints_other (i := 2) (v := .int .i64 y1) I1 hgG
                have B1 := nextB B0 hw5
                have B2 := Blk.setB (i := 1) (v := .int .i64 y2) B1 hG
                have B3 := Blk.setB (i := 2) (v := .int .i64 y1) B2 hG
                have X2 : Blk _ G 3 (cI [y0, y2, y1, y3]) := (X1.setI 1 y2 (by simp)).setI 2 y1 (by simp)
                clear x0 x1 hI X0 B0 B1 I1 X1 hw5 B2
                go_wp2_with fail
                go_roundw
                case rel => exact ⟨y0, y2, y1, y3, by unfold In4 at *; omega, X2, I2, B3, .inr (.inr (.inl ⟨rfl, s3⟩))⟩
                case measure => simp [intOf]
              · have s3 := s2 (by omega)
                clear s1 s2 hs
                go_wp2_with fail
                refine wp_region_ext (by kernel_rfl) (by kernel_rfl) ?_
                repeat (go_big_quiet_step (fail))
                refine wpQuiet_nil ?_
                rintro ⟨w5, hw5⟩
                dsimp only
                have X1 := X0.ext hw5
                have I1 := hI.next hw5
                have B1 := nextB B0 hw5
                clear x0 x1 hI X0 B0 hw5
                go_wp2_with fail
                go_roundw
                case rel => exact ⟨y0, y1, y2, y3, hin4, X1, I1, B1, .inr (.inr (.inl ⟨rfl, s3⟩))⟩
                case measure => simp [intOf]
            · have x0 := cellX (show wr.cell? ⟨G, 2, none⟩ = some (.int .i64 y2) from X0.c 2 rfl)
              have x1 := cellX (show wr.cell? ⟨G, 3, none⟩ = some (.int .i64 y3) from X0.c 3 rfl)
              obtain ⟨s1, s2⟩ := sort4_2 hs
              by_cases hc : y3 < y2
              · have s3 := s1 hc
                clear s1 s2 hs
                go_wp2_with fail
                refine wp_region_ext (by kernel_rfl) (by kernel_rfl) ?_
                repeat (go_big_quiet_step (fail))
                refine wpQuiet_nil ?_
                rintro ⟨w5, hw5⟩
                dsimp only
                have X1 := X0.ext hw5
                have e0 : w5.cell? ⟨G, 2, none⟩ = some (.int .i64 y2) := X1.c 2 rfl
                have e1 : w5.cell? ⟨G, 3, none⟩ = some (.int .i64 y3) := X1.c 3 rfl
                have f0 := X1.fr 2
                have f1 := X1.fr 3
                have I1 := ints_other (i := 2) (v := .int .i64 y3) (hI.next hw5) hgG
                have I2 := ints_other (i := 3) (v := .int .i64 y2) I1 hgG
                have B1 := nextB B0 hw5
                have B2 := Blk.setB (i := 2) (v := .int .i64 y3) B1 hG
                have B3 := Blk.setB (i := 3) (v := .int .i64 y2) B2 hG
                have X2 : Blk _ G 3 (cI [y0, y1, y3, y2]) := (X1.setI 2 y3 (by simp)).setI 3 y2 (by simp)
                clear x0 x1 hI X0 B0 B1 I1 X1 hw5 B2
                go_wp2_with fail
                go_roundw
                case rel => exact ⟨y0, y1, y3, y2, by unfold In4 at *; omega, X2, I2, B3, .inr (.inr (.inr ⟨rfl, s3⟩))⟩
                case measure => simp [intOf]
              · have s3 := s2 (by omega)
                clear s1 s2 hs
                go_wp2_with fail
                refine wp_region_ext (by kernel_rfl) (by kernel_rfl) ?_
                repeat (go_big_quiet_step (fail))
                refine wpQuiet_nil ?_
                rintro ⟨w5, hw5⟩
                dsimp only
                have X1 := X0.ext hw5
                have I1 := hI.next hw5
                have B1 := nextB B0 hw5
                clear x0 x1 hI X0 B0 hw5
                go_wp2_with fail
                go_roundw
                case rel => exact ⟨y0, y1, y2, y3, hin4, X1, I1, B1, .inr (.inr (.inr ⟨rfl, s3⟩))⟩
                case measure => simp [intOf]
            · have s3 := sort4_end hs
              go_wp2_with fail
              go_roundw
              case rel => exact ⟨A + 1, y0, y1, y2, y3, by omega, by go_num, hin4, s3, X0, hI, B0⟩
              case measure => simp [intOf]; omega
        · obtain rfl : A = 4 := by omega
          have hd := sort4_done hs4
          have x0 := cellX (show wr.cell? ⟨G, 0, none⟩ = some (.int .i64 y0) from X0.c 0 rfl)
          have x1 := cellX (show wr.cell? ⟨G, 1, none⟩ = some (.int .i64 y1) from X0.c 1 rfl)
          have x2 := cellX (show wr.cell? ⟨G, 2, none⟩ = some (.int .i64 y2) from X0.c 2 rfl)
          have x3 := cellX (show wr.cell? ⟨G, 3, none⟩ = some (.int .i64 y3) from X0.c 3 rfl)
          unfold In4 at hin4
          have hcase : ((n : Int) ≤ y3) ∨ (y3 < (n : Int) ∧ (y0 == y1) = true) ∨ (y3 < (n : Int) ∧ (y0 == y1) = false ∧ (y1 == y2) = true) ∨ (y3 < (n : Int) ∧ (y0 == y1) = false ∧ (y1 == y2) = false ∧ (y2 == y3) = true) ∨ (y3 < (n : Int) ∧ (y0 == y1) = false ∧ (y1 == y2) = false ∧ (y2 == y3) = false) := by
            simp only [beq_iff_eq, beq_eq_false_iff_ne]
            omega
          clear hs4
          rcases hcase with q1 | ⟨q1, q2⟩ | ⟨q1, q2, q3⟩ | ⟨q1, q2, q3, q4⟩ | ⟨q1, q2, q3, q4⟩
          · have q0 := decide_eq_true q1
            go_wp2_with fail
            refine wp_region_ext (by kernel_rfl) (by kernel_rfl) ?_
            repeat (go_big_quiet_step (fail))
            refine wpQuiet_nil ?_
            rintro ⟨w5, hw5⟩
            dsimp only
            have B1 := nextB B0 hw5
            clear x0 x1 x2 x3
            go_wp2_with (go_at_call 17; refine (alive_any _).mono ?_; rintro e w6 ⟨rfl, hb6⟩)
            go_ret
            exact Ret.mk rfl (nextB B1 hb6)
          · have q0 : decide ((n : Int) ≤ y3) = false := decide_eq_false (by omega)
            go_wp2_with fail
            refine wp_region_ext (by kernel_rfl) (by kernel_rfl) ?_
            repeat (go_big_quiet_step (fail))
            refine wpQuiet_nil ?_
            rintro ⟨w5, hw5⟩
            dsimp only
            have B1 := nextB B0 hw5
            clear x0 x1 x2 x3
            go_wp2_with (go_at_call 17; refine (alive_any _).mono ?_; rintro e w6 ⟨rfl, hb6⟩)
            go_ret
            exact Ret.mk rfl (nextB B1 hb6)
          · have q0 : decide ((n : Int) ≤ y3) = false := decide_eq_false (by omega)
            go_wp2_with fail
            refine wp_region_ext (by kernel_rfl) (by kernel_rfl) ?_
            repeat (go_big_quiet_step (fail))
            refine wpQuiet_nil ?_
            rintro ⟨w5, hw5⟩
            dsimp only
            have B1 := nextB B0 hw5
            clear x0 x1 x2 x3
            go_wp2_with (go_at_call 17; refine (alive_any _).mono ?_; rintro e w6 ⟨rfl, hb6⟩)
            go_ret
            exact Ret.mk rfl (nextB B1 hb6)
          · have q0 : decide ((n : Int) ≤ y3) = false := decide_eq_false (by omega)
            go_wp2_with fail
            refine wp_region_ext (by kernel_rfl) (by kernel_rfl) ?_
            repeat (go_big_quiet_step (fail))
            refine wpQuiet_nil ?_
            rintro ⟨w5, hw5⟩
            dsimp only
            have B1 := nextB B0 hw5
            clear x0 x1 x2 x3
            go_wp2_with (go_at_call 17; refine (alive_any _).mono ?_; rintro e w6 ⟨rfl, hb6⟩)
            go_ret
            exact Ret.mk rfl (nextB B1 hb6)
          · have q0 : decide ((n : Int) ≤ y3) = false := decide_eq_false (by omega)
            go_wp2_with fail
            refine wp_region_ext (by kernel_rfl) (by kernel_rfl) ?_
            repeat (go_big_quiet_step (fail))
            refine wpQuiet_nil ?_
            rintro ⟨w5, hw5⟩
            dsimp only
            have q5 : y0 ≠ y1 := by simpa using q2
            have q6 : y1 ≠ y2 := by simpa using q3
            have q7 : y2 ≠ y3 := by simpa using q4
            replace X0 := X0.ext hw5
            replace hI := hI.next hw5
            replace B0 := nextB B0 hw5
            clear hw5 x0 x1 x2 x3 q0 q2 q3 q4
            obtain ⟨i0, rfl⟩ : ∃ m : Nat, y0 = m := ⟨y0.toNat, by omega⟩
            obtain ⟨i1, rfl⟩ : ∃ m : Nat, y1 = m := ⟨y1.toNat, by omega⟩
            obtain ⟨i2, rfl⟩ : ∃ m : Nat, y2 = m := ⟨y2.toNat, by omega⟩
            obtain ⟨i3, rfl⟩ : ∃ m : Nat, y3 = m := ⟨y3.toNat, by omega⟩
            have h01 : i0 < i1 := by omega
            have h12 : i1 < i2 := by omega
            have h23 : i2 < i3 := by omega
            have h3n : i3 < n := by omega
            have BP := Lib.hid (fun W (hW : Below w5.heap.size w5 W) (p q : Nat) (hp : p < q) (hq : q < n) => show Calls Try.prog 30 #[.slice (some ⟨g, 0, none⟩) n n, .int .i64 p, .int .i64 q] W (Ret (.tuple #[.int .i64 (v p q), .int .i64 0]) W) from by
              have := BT.out g W (hI.next hW) p q (by omega) hq
              rwa [show min (p : Int) q = p by omega, show max (p : Int) q = q by omega] at this)
            have hpt := Lib.hid (wrap_ptolemy (PT.out i0 i1 i2 i3 h01 h12 h23))
            have P02 := Lib.hid (fun W hW => BP.out W hW i0 i2 (by omega) (by omega))
            have P13 := Lib.hid (fun W hW => BP.out W hW i1 i3 (by omega) (by omega))
            have P01 := Lib.hid (fun W hW => BP.out W hW i0 i1 (by omega) (by omega))
            have P23 := Lib.hid (fun W hW => BP.out W hW i2 i3 (by omega) (by omega))
            have P03 := Lib.hid (fun W hW => BP.out W hW i0 i3 (by omega) (by omega))
            have P12 := Lib.hid (fun W hW => BP.out W hW i1 i2 (by omega) (by omega))
            clear BP BT PT q5 q6 q7 h01 h12 h23 h3n hin4 hd
            generalize v i0 i2 = v02 at *
            generalize v i1 i3 = v13 at *
            generalize v i0 i1 = v01 at *
            generalize v i2 i3 = v23 at *
            generalize v i0 i3 = v03 at *
            generalize v i1 i2 = v12 at *
            have A0 := (show w5.cell? ⟨G, 0, none⟩ = some (.int .i64 i0) from X0.c 0 rfl)
            have A1 := (show w5.cell? ⟨G, 1, none⟩ = some (.int .i64 i1) from X0.c 1 rfl)
            have A2 := (show w5.cell? ⟨G, 2, none⟩ = some (.int .i64 i2) from X0.c 2 rfl)
            have A3 := (show w5.cell? ⟨G, 3, none⟩ = some (.int .i64 i3) from X0.c 3 rfl)
            replace A0 := Lib.hid A0
            replace A1 := Lib.hid A1
            replace A2 := Lib.hid A2
            replace A3 := Lib.hid A3
            have C0 := Below.refl w5.heap.size w5
            clear X0 hI
            have x0 := cellX (cellB C0 A0.out)
            have x1 := cellX (cellB C0 A2.out)
            have PE := Lib.hid (fun (x : Ext w5) => P02.out x.world (nextB C0 x.ok))
            go_wp2_with fail
            refine wp_region_ext (by kernel_rfl) (by kernel_rfl) ?_
            repeat (go_big_quiet_step ((go_at_call 30; exact callE (PE.out _))))
            refine wpQuiet_nil ?_
            rintro ⟨w6, hw⟩
            dsimp only
            replace C0 := nextB C0 hw
            clear x0 x1 PE hw
            have x0 := cellX (cellB C0 A1.out)
            have x1 := cellX (cellB C0 A3.out)
            have PE := Lib.hid (fun (x : Ext w6) => P13.out x.world (nextB C0 x.ok))
            go_wp2_with fail
            refine wp_region_ext (by kernel_rfl) (by kernel_rfl) ?_
            repeat (go_big_quiet_step ((go_at_call 30; exact callE (PE.out _))))
            refine wpQuiet_nil ?_
            rintro ⟨w7, hw⟩
            dsimp only
            replace C0 := nextB C0 hw
            clear x0 x1 PE hw
            have x0 := cellX (cellB C0 A0.out)
            have x1 := cellX (cellB C0 A1.out)
            have PE := Lib.hid (fun (x : Ext w7) => P01.out x.world (nextB C0 x.ok))
            go_wp2_with fail
            refine wp_region_ext (by kernel_rfl) (by kernel_rfl) ?_
            repeat (go_big_quiet_step ((go_at_call 30; exact callE (PE.out _))))
            refine wpQuiet_nil ?_
            rintro ⟨w8, hw⟩
            dsimp only
            replace C0 := nextB C0 hw
            clear x0 x1 PE hw
            have x0 := cellX (cellB C0 A2.out)
            have x1 := cellX (cellB C0 A3.out)
            have PE := Lib.hid (fun (x : Ext w8) => P23.out x.world (nextB C0 x.ok))
            go_wp2_with fail
            refine wp_region_ext (by kernel_rfl) (by kernel_rfl) ?_
            repeat (go_big_quiet_step ((go_at_call 30; exact callE (PE.out _))))
            refine wpQuiet_nil ?_
            rintro ⟨w9, hw⟩
            dsimp only
            replace C0 := nextB C0 hw
            clear x0 x1 PE hw
            have x0 := cellX (cellB C0 A0.out)
            have x1 := cellX (cellB C0 A3.out)
            have PE := Lib.hid (fun (x : Ext w9) => P03.out x.world (nextB C0 x.ok))
            go_wp2_with fail
            refine wp_region_ext (by kernel_rfl) (by kernel_rfl) ?_
            repeat (go_big_quiet_step ((go_at_call 30; exact callE (PE.out _))))
            refine wpQuiet_nil ?_
            rintro ⟨w10, hw⟩
            dsimp only
            replace C0 := nextB C0 hw
            clear x0 x1 PE hw
            have x0 := cellX (cellB C0 A1.out)
            have x1 := cellX (cellB C0 A2.out)
            have PE := Lib.hid (fun (x : Ext w10) => P12.out x.world (nextB C0 x.ok))
            go_wp2_with fail
            refine wp_region_ext (by kernel_rfl) (by kernel_rfl) ?_
            repeat (go_big_quiet_step ((go_at_call 30; exact callE (PE.out _))))
            refine wpQuiet_nil ?_
            rintro ⟨w11, hw⟩
            dsimp only
            replace C0 := nextB C0 hw
            clear x0 x1 PE hw
            have hq : (wrap64 (v02 * v13) == wrap64 (wrap64 (v01 * v23) + wrap64 (v03 * v12))) = true := beq_iff_eq.2 hpt.out
            clear hpt P02 P13 P01 P23 P03 P12 A0 A1 A2 A3
            go_wp2_with (go_at_call 17; refine (alive_any _).mono ?_; rintro e w12 ⟨rfl, hb12⟩)
            go_ret
            exact Ret.mk rfl (nextB (nextB B0 C0) hb12))
  · have hcase : 60 < len ∨ (len ≤ 60 ∧ ¬ BrandP n L) := by
      by_cases h1 : len ≤ 60
      · exact .inr ⟨h1, fun h3 => hgo ⟨h1, h3⟩⟩
      · exact .inl (by omega)
    clear hgo
    rcases hcase with h1 | ⟨h1, h3⟩
    · clear h hl
      go_enter Try.func13, Try.ntmps13
      go_wp2_with (go_at_call 17; refine (alive_any _).mono ?_; rintro e w2 ⟨rfl, hb2⟩)
      go_ret
      exact Ret.mk rfl hb2
    · have I := Lib.hid (show Calls _ _ _ w (Ret (.bool false) w) from by
        have := refIsBrand_any n a len cap L w h hl (by omega)
        rwa [decide_eq_false h3] at this)
      clear h hl h3
      go_enter Try.func13, Try.ntmps13
      go_wp2_with (first
        | (go_at_call 19; refine I.out.mono ?_; rintro e w1 ⟨rfl, hb1⟩)
        | (go_at_call 17; refine (alive_any _).mono ?_; rintro e w2 ⟨rfl, hb2⟩))
      go_ret
      exact Ret.mk rfl (nextB hb1 hb2)
end Go.Proofs.Ytflbaadfbjpakaa
