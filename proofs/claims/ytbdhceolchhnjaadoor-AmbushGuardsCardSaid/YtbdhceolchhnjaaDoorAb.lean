/- Layer 4, by the program: the first of a list of which a function says yes; is a line among others contained in a set. -/
import Derived.Test.YtbdhceolchhnjaaDoorAa
import Derived.StillTail
namespace Go.Proofs.YtbdhceolchhnjaaDoor
open Go Go.RowKit

/-- The first of n of which p says yes, or -1. -/
def FirstI (p : Nat → Bool) (n : Nat) (r : Int) : Prop := (r = -1 ∧ ∀ j, j < n → p j = false) ∨ ∃ i : Nat, r = (i : Int) ∧ i < n ∧ p i = true ∧ ∀ j, j < i → p j = false
set_option maxRecDepth 100000 in
set_option maxHeartbeats 800000 in
theorem indexF_any (fn : FuncId) (caps : Array Value) (I : World → Prop) (p : Nat → Bool) (xv : Nat → Value) (a : Option Addr) (n c : Nat) (w : World) (h0 : I w)
    (HE : ∀ args W, (callFunc fn args).run Tryd.prog W = .ok (.enter fn args) W) (hm : n ≤ 1000)
    (hc : 0 < n → ∃ b off, a = some ⟨b, off, none⟩ ∧ ∀ W, I W → ∀ i, i < n → W.cell? ⟨b, off + i, none⟩ = some (xv i))
    (H : ∀ W, I W → ∀ i, i < n → (∀ j, j < i → p j = false) → Calls Tryd.prog fn (#[xv i] ++ caps) W (fun e w' => e = .returned (.bool (p i)) ∧ I w')) :
    Calls Tryd.prog 75 #[.slice a n c, .func (.func fn) #[] caps] w (fun e w' => ∃ r, e = .returned (.int .i64 r) ∧ FirstI p n r ∧ I w') := by
  replace H := Lib.hid H
  replace hc := Lib.hid hc
  replace h0 := Lib.hid h0
  go_enter Tryd.func75, Tryd.ntmps75
  go_wp2
  go_loopw [5, 8] (fun v i wr => ∃ k : Nat, k ≤ n ∧ i = .int .i64 k ∧ (∀ j, j < k → p j = false) ∧ I wr) (fun _ i _ => n - (intOf i).toNat)
  case atStart => exact ⟨0, by omega, rfl, fun j hj => absurd hj (by omega), h0.out⟩
  case round =>
    obtain ⟨k, hk, rfl, hno, hI⟩ := hrel
    replace hno := Lib.hid hno
    by_cases hlt : k < n
    · obtain ⟨b, off, rfl, hcc⟩ := hc.out (by omega)
      have x0 := hcc _ hI k hlt
      have hi1 : (k : Int) < (n : Int) := by omega
      have C := H.out _ hI k hlt hno.out
      replace hI := Lib.hid hI
      clear hcc
      generalize xv k = y at *
      cases g : p k
      · rw [g] at C
        replace C := Lib.hid C
        replace g := Lib.hid g
        go_wp2_with (first | (refine C.out.mono ?_; rintro e w1 ⟨rfl, hI1⟩; replace hI1 := Lib.hid hI1))
        go_roundw
        case rel => exact ⟨k + 1, by omega, by go_num, fun j hj => (by
          by_cases hjk : j = k
          · subst hjk; exact g.out
          · exact hno.out j (by omega)), hI1.out⟩
        case measure => simp [intOf]; omega
      · rw [g] at C
        replace C := Lib.hid C
        replace g := Lib.hid g
        go_wp2_with (first | (refine C.out.mono ?_; rintro e w1 ⟨rfl, hI1⟩; replace hI1 := Lib.hid hI1))
        go_ret
        exact ⟨_, rfl, .inr ⟨k, rfl, hlt, g.out, hno.out⟩, hI1.out⟩
    · obtain rfl : k = n := by omega
      replace hI := Lib.hid hI
      go_wp2
      go_ret
      exact ⟨_, rfl, .inl ⟨rfl, hno.out⟩, hI.out⟩
theorem containsF_any (fn : FuncId) (caps : Array Value) (I : World → Prop) (p : Nat → Bool) (xv : Nat → Value) (a : Option Addr) (n c : Nat) (w : World) (h0 : I w)
    (HE : ∀ args W, (callFunc fn args).run Tryd.prog W = .ok (.enter fn args) W) (hm : n ≤ 1000)
    (hc : 0 < n → ∃ b off, a = some ⟨b, off, none⟩ ∧ ∀ W, I W → ∀ i, i < n → W.cell? ⟨b, off + i, none⟩ = some (xv i))
    (H : ∀ W, I W → ∀ i, i < n → (∀ j, j < i → p j = false) → Calls Tryd.prog fn (#[xv i] ++ caps) W (fun e w' => e = .returned (.bool (p i)) ∧ I w')) :
    Calls Tryd.prog 95 #[.slice a n c, .func (.func fn) #[] caps] w (fun e w' => e = .returned (.bool ((List.range n).any p)) ∧ I w') := by
  have K := Lib.hid (indexF_any fn caps I p xv a n c w h0 HE hm hc H)
  clear hc H h0
  go_enter Tryd.func95, Tryd.ntmps95
  go_wp2_with (go_at_call 75; refine K.out.mono ?_; rintro e w1 ⟨r, rfl, hr, hI⟩; replace hr := Lib.hid hr; replace hI := Lib.hid hI)
  go_ret
  refine ⟨?_, hI.out⟩
  have : decide (0 ≤ r) = (List.range n).any p := by
    rcases hr.out with ⟨rfl, h⟩ | ⟨i, rfl, h1, h2, _⟩
    · rw [decide_eq_false (by omega)]
      symm
      rw [List.any_eq_false]
      intro x hx
      rw [h x (List.mem_range.1 hx)]; simp
    · rw [decide_eq_true (by omega)]
      symm
      exact List.any_eq_true.2 ⟨i, List.mem_range.2 h1, h2⟩
  rw [← this]
  rfl
theorem any_range (xs : List Int) (p : Int → Bool) : (List.range xs.length).any (fun i => p (nth xs i)) = xs.any p := by
  rw [Bool.eq_iff_iff, List.any_eq_true, List.any_eq_true]
  constructor
  · rintro ⟨i, hi, h⟩; exact ⟨_, nth_mem (List.mem_range.1 hi), h⟩
  · rintro ⟨x, hx, h⟩
    obtain ⟨i, hi, e⟩ := mem_nth hx
    exact ⟨i, List.mem_range.2 hi, by rw [e]; exact h⟩
theorem beq_nat (a b : Nat) : ((a : Int) == (b : Int)) = (a == b) := by
  rw [Bool.eq_iff_iff, beq_iff_eq, beq_iff_eq]; omega
theorem cOne_any (q : Addr) (s o : Nat) (w : World) (hs : s < 65536) (ho : o < 65536) (hc : w.cell? q = some (.int .i64 (s : Nat))) :
    Calls Tryd.prog 96 #[.int .i64 (o : Nat), .pointer (some q)] w (Only (.bool (inB o s)) w) := by
  have an := i64_and_nat s o (by omega) (by omega)
  go_enter Tryd.func96, Tryd.ntmps96
  go_wp2
  go_ret
  exact Only.mk (by show Value.bool (((s &&& o : Nat) : Int) == (o : Int)) = _; rw [beq_nat]; rfl)
set_option maxRecDepth 100000 in
theorem contains_any (a : Option Addr) (n c : Nat) (R : List Int) (s : Nat) (w : World) (h : Ints w a R) (hn : R.length = n) (hm : n ≤ 1000) (hs : s < 65536) (hR : Sets R) :
    Calls Tryd.prog 74 #[.int .i64 (s : Nat), .slice a n c] w (Ret (.bool (hasOne R s)) w) := by
  have K := Lib.hid (fun (W : World) (q : Addr) (hW : Ints W a R) (hc : W.cell? q = some (.int .i64 (s : Nat))) => containsF_any 96 #[.pointer (some q)] (fun W' => W = W') (fun i => inB (nth R i).toNat s) (fun i => .int .i64 (nth R i)) a n c W rfl
    (fun args W => by go_simp) hm (fun h0 => by
      obtain ⟨b, off, e, hcc⟩ := ints_at hW (by omega)
      exact ⟨b, off, e, fun W' hw i hi => by subst hw; exact hcc i (by omega)⟩) (fun W' hw i hi _ => by
      subst hw
      have hx := hR _ (nth_mem (show i < R.length by omega))
      have := cOne_any q s (nth R i).toNat W hs (by omega) hc
      rw [Int.toNat_of_nonneg hx.1] at this
      exact this.mono fun _ _ k => ⟨k.1, k.2⟩))
  have h := Lib.hid h
  have e1 : (List.range n).any (fun i => inB (nth R i).toNat s) = hasOne R s := by rw [← hn]; exact any_range R fun x => inB x.toNat s
  rw [e1] at K
  clear hn e1
  go_enter Tryd.func74, Tryd.ntmps74
  go_wp2_with (go_at_call 95; refine (K.out _ _ (h.out.next (b1 _ _)) (by go_simp)).mono ?_; rintro e w1 ⟨rfl, rfl⟩)
  go_ret
  exact Ret.mk rfl (b1 _ _)
end Go.Proofs.YtbdhceolchhnjaaDoor
