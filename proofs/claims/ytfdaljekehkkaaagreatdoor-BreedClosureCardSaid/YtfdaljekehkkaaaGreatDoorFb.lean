/- Layer 5, by the program: fit, Build, setOf, Knot. -/
import Derived.Test.YtfdaljekehkkaaaGreatDoorFa
import Derived.Test.YtfdaljekehkkaaaGreatDoorEe
import Derived.Test.YtfdaljekehkkaaaGreatDoorEf
namespace Go.Proofs.YtfdaljekehkkaaaGreatDoor
open Go Go.RowKit

/-- The tree of n beasts that shows the triples, or none. -/
def bldT (m : Nat) (L : List T3) : Option Tr := buildT L 300 (pw m - 1)
theorem full_bd {m : Nat} (h1 : 1 ≤ m) (h8 : m ≤ 8) : 0 < pw m - 1 ∧ pw m - 1 < 300 ∧ pw m - 1 < pw m := by
  have h2 := pw_mono (k := 8) h8
  have h3 := pw_mono (i := 1) h1
  have h4 : pw 8 = 256 := rfl
  have h5 : pw 1 = 2 := rfl
  omega
theorem bldT_good {m : Nat} {L : List T3} {t : Tr} (h1 : 1 ≤ m) (h8 : m ≤ 8) (h : bldT m L = some t) : Good m t ∧ t.set = pw m - 1 := by
  obtain ⟨a, b, c⟩ := full_bd h1 h8
  exact ⟨buildT_good L (by omega) 300 _ t c a h, buildT_set L 300 _ t (by omega) a h⟩
theorem bld_any (a : Option Addr) (l c : Nat) (L : List T3) (m : Nat) (w : World) (hTr : Trips w a L) (hl : L.length = l) (hl9 : l ≤ 1000) (hok : ∀ t ∈ L, OkT t) (h1 : 1 ≤ m) (h8 : m ≤ 8) (hT : Tab w) :
    Calls Tryz.prog 28 #[.slice a l c, .int .i64 ((pw m - 1 : Nat) : Int)] w (BuildR (bldT m L) w) := by
  obtain ⟨p, q, _⟩ := full_bd h1 h8
  exact build_any a l c L hl hl9 hok 300 _ w q p (by omega) hTr hT
/-- What Build returns: a string and an error. -/
def bldE (n : Int) (L : List T3) : List UInt8 × Int :=
  if memE n L = 0 then (match bldT n.toNat L with | some t => (t.txt, 0) | none => ([], 10)) else ([], memE n L)
set_option maxRecDepth 100000 in
set_option maxHeartbeats 1000000 in
theorem Build_any (n : Int) (a : Option Addr) (l c : Nat) (L : List T3) (w : World) (hTr : Trips w a L) (hl : L.length = l) (hl9 : l ≤ 1000) (hT : Tab w) :
    Calls Tryz.prog 11 #[.int .i64 n, .slice a l c] w (Ret (.tuple #[strV (bldE n L).1, .int .i64 (bldE n L).2]) w) := by
  have M := memoriesOf_any n a l c L w hTr hl hl9
  unfold memV at M
  unfold bldE
  by_cases h0 : memE n L = 0
  · rw [if_pos h0] at M
    rw [if_pos h0]
    obtain ⟨m, rfl, h1, h8, hok, _⟩ := memE_ok h0
    rw [Int.toNat_natCast]
    have B := Lib.hid (fun W hW hW2 => bld_any a l c L m W hW hl hl9 (fun t ht => okT_of (hok t ht) (by omega)) h1 h8 hW2)
    have G := Lib.hid (fun t => bldT_good (L := L) (t := t) h1 h8)
    have A := Lib.hid (fun W => all_any m (by omega) W)
    replace M := Lib.hid M
    replace hTr := Lib.hid hTr
    replace hT := Lib.hid hT
    clear hl hok h0
    generalize bldT m L = o at *
    cases o with
    | none =>
      dsimp only
      go_enter Tryz.func11, Tryz.ntmps11
      go_wp2_with (first
        | (go_at_call 19; (with_reducible refine M.out.mono ?_); rintro e w1 ⟨rfl, hb1⟩)
        | (go_at_call 29; (with_reducible refine (A.out _).mono ?_); rintro e w2 ⟨rfl, rfl⟩)
        | (go_at_call 28; (with_reducible refine (B.out _ (hTr.out.next hb1) (hT.out.next hb1)).mono ?_); rintro e w2 ⟨v, rfl, _, hb2⟩))
      go_ret2
      exact Ret.mk rfl (nextB hb1 hb2)
    | some t =>
      dsimp only
      have hsh := (G.out t rfl).1.short (by omega)
      clear G
      go_enter Tryz.func11, Tryz.ntmps11
      go_wp2_with (first
        | (go_at_call 19; (with_reducible refine M.out.mono ?_); rintro e w1 ⟨rfl, hb1⟩)
        | (go_at_call 29; (with_reducible refine (A.out _).mono ?_); rintro e w2 ⟨rfl, rfl⟩)
        | (go_at_call 28; (with_reducible refine (B.out _ (hTr.out.next hb1) (hT.out.next hb1)).mono ?_); rintro e w2 ⟨v, rfl, hv, hb2⟩; obtain ⟨ty, pay, f, arg, rfl, hm, he, hC⟩ := text_any t _ v w2 (hv t rfl) (by omega); clear hv; replace hC := Lib.hid hC)
        | ((with_reducible refine hC.out.mono ?_); rintro e w3 ⟨rfl, hb3⟩))
      go_ret2
      exact Ret.mk rfl (nextB (nextB hb1 hb2) hb3)
  · rw [if_neg h0] at M
    rw [if_neg h0]
    have hne : (memE n L != 0) = true := by rw [bne_iff_ne]; exact h0
    clear h0
    replace M := Lib.hid M
    generalize memE n L = er at *
    go_enter Tryz.func11, Tryz.ntmps11
    go_wp2_with (go_at_call 19; (with_reducible refine M.out.mono ?_); rintro e w1 ⟨rfl, hb1⟩)
    go_ret2
    exact Ret.mk rfl hb1
end Go.Proofs.YtfdaljekehkkaaaGreatDoor
