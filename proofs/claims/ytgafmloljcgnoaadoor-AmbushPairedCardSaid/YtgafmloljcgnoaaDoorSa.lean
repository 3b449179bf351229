/- Layer 4, by the program: the careful spot. -/
import Derived.Test.YtgafmloljcgnoaaDoorAs
namespace Go.Proofs.YtgafmloljcgnoaaDoor
open Go Go.RowKit

/-- The first of the least. -/
def mnL (f : Nat → Nat) (l : List Nat) : Nat := l.tail.foldl (fun b x => if f x < f b then x else b) (l.headD 0)
theorem mnL_one (f : Nat → Nat) (x : Nat) : mnL f [x] = x := rfl
theorem mnL_snoc (f : Nat → Nat) {l : List Nat} (h : l ≠ []) (x : Nat) : mnL f (l ++ [x]) = if f x < f (mnL f l) then x else mnL f l := by
  cases l with
  | nil => exact absurd rfl h
  | cons a l =>
    unfold mnL
    simp only [List.cons_append, List.tail_cons, List.headD_cons, List.foldl_append, List.foldl_cons, List.foldl_nil]
    rfl
theorem mnL_spec (f : Nat → Nat) (l : List Nat) (h : l ≠ []) : mnL f l ∈ l ∧ ∀ j ∈ l, f (mnL f l) ≤ f j := by
  suffices H : ∀ r : List Nat, r ≠ [] → mnL f r.reverse ∈ r ∧ ∀ j ∈ r, f (mnL f r.reverse) ≤ f j by
    have := H l.reverse (by simpa using h)
    rw [List.reverse_reverse] at this
    exact ⟨by simpa using this.1, fun j hj => this.2 j (by simpa using hj)⟩
  intro r
  induction r with
  | nil => intro h; exact absurd rfl h
  | cons a r ih =>
    intro _
    rw [List.reverse_cons]
    by_cases e : r = []
    · subst e
      refine ⟨by simp [mnL], fun j hj => ?_⟩
      simp at hj; subst hj; exact Nat.le_refl _
    · obtain ⟨h1, h2⟩ := ih e
      rw [mnL_snoc f (by simpa using e)]
      split
      · refine ⟨List.mem_cons_self, fun j hj => ?_⟩
        rcases List.mem_cons.1 hj with rfl | hj
        · exact Nat.le_refl _
        · have := h2 j hj; omega
      · refine ⟨List.mem_cons_of_mem _ h1, fun j hj => ?_⟩
        rcases List.mem_cons.1 hj with rfl | hj
        · omega
        · exact h2 j hj
theorem take_snocN (l : List Nat) (k : Nat) (h : k < l.length) : l.take (k + 1) = l.take k ++ [l.getD k 0] := by
  rw [List.take_succ_eq_append_getElem h]; simp [h]
set_option maxRecDepth 100000 in
set_option maxHeartbeats 1000000 in
theorem minF_any (fn : FuncId) (caps : Array Value) (I : World → Prop) (f : Nat → Nat) (l : List Nat) (b off n c : Nat) (w : World) (h0 : I w) (hl : l.length = n) (hpos : 0 < n) (hm : n ≤ 1000) (hf : ∀ i, f i ≤ 100000)
    (HE : ∀ args W, (callFunc fn args).run Tryd.prog W = .ok (.enter fn args) W)
    (hc : ∀ W, I W → ∀ i, i < n → W.cell? ⟨b, off + i, none⟩ = some (.int .i64 ((l.getD i 0 : Nat) : Int)))
    (H : ∀ W, I W → ∀ i ∈ l, ∀ j ∈ l, Calls Tryd.prog fn (#[.int .i64 (i : Nat), .int .i64 (j : Nat)] ++ caps) W (fun e w' => e = .returned (.int .i64 ((f i : Nat) - (f j : Nat))) ∧ I w')) :
    Calls Tryd.prog 92 #[.slice (some ⟨b, off, none⟩) n c, .func (.func fn) #[] caps] w (fun e w' => e = .returned (.int .i64 (mnL f l : Nat)) ∧ I w') := by
  obtain ⟨g, hg⟩ : ∃ g : Nat → Nat, Hid (∀ i, l.getD i 0 = g i) := ⟨fun i => l.getD i 0, Lib.hid fun _ => rfl⟩
  have T := Lib.hid (fun k (h : k < l.length) => (hg.out k) ▸ take_snocN l k h)
  have hgl : Hid (∀ k, k < l.length → g k ∈ l) := Lib.hid (fun k hk => by rw [← hg.out]; simp [hk])
  simp only [hg.out] at hc
  have M1 : Hid (mnL f (l.take 1) = g 0) := Lib.hid (by rw [T.out 0 (by omega)]; rfl)
  replace H := Lib.hid H
  have z0 := hc w h0 0 hpos
  rw [Nat.add_zero] at z0
  replace hc := Lib.hid hc
  replace h0 := Lib.hid h0
  have hn1 : ¬ ((n : Int) < 1) := by omega
  have hmem := Lib.hid (fun k (h0 : 0 < k) (hk : k ≤ l.length) => (mnL_spec f (l.take k) (by rw [Ne, List.take_eq_nil_iff]; rintro (h | h); omega; rw [h] at hk; simp at hk; omega)).1)
  have hend : Hid (l.take n = l) := Lib.hid (List.take_of_length_le (by omega))
  go_enter Tryd.func92, Tryd.ntmps92
  go_wp2
  go_loopw [5, 6] (fun v i wr => ∃ k : Nat, 1 ≤ k ∧ k ≤ n ∧ i = .int .i64 k ∧ v = .int .i64 (mnL f (l.take k) : Nat) ∧ I wr) (fun _ i _ => n - (intOf i).toNat)
  case atStart => exact ⟨1, by omega, by omega, rfl, by rw [M1.out], h0.out⟩
  case round =>
    obtain ⟨k, hk1, hk, rfl, rfl, hI⟩ := hrel
    by_cases hlt : k < n
    · have x0 := hc.out _ hI k hlt
      have hi1 : (k : Int) < (n : Int) := by omega
      have C := Lib.hid (H.out _ hI _ (hgl.out k (by omega)) _ (List.mem_of_mem_take (hmem.out k (by omega) (by omega))))
      have hT := T.out k (by omega)
      have hsn := mnL_snoc f (l := l.take k) (by intro h; have := hmem.out k (by omega) (by omega); rw [h] at this; cases this) (g k)
      rw [← hT] at hsn
      clear hT
      replace hI := Lib.hid hI
      by_cases c1 : f (g k) < f (mnL f (l.take k))
      · rw [if_pos c1] at hsn
        have c2 : (f (g k) : Int) - (f (mnL f (l.take k)) : Int) < 0 := by omega
        replace hsn := Lib.hid hsn
        clear c1
        generalize mnL f (l.take k) = q at *
        generalize (f (g k) : Int) - (f q : Int) = dd at *
        go_wp2_with (first | (refine C.out.mono ?_; rintro e w1 ⟨rfl, hI1⟩; replace hI1 := Lib.hid hI1; have x1 := hc.out _ hI1.out k hlt))
        go_roundw
        case rel => exact ⟨k + 1, by omega, by omega, by go_num, by rw [hsn.out], hI1.out⟩
        case measure => simp [intOf]; omega
      · rw [if_neg c1] at hsn
        have c2 : ¬ ((f (g k) : Int) - (f (mnL f (l.take k)) : Int) < 0) := by omega
        replace hsn := Lib.hid hsn
        clear c1
        generalize mnL f (l.take k) = q at *
        generalize (f (g k) : Int) - (f q : Int) = dd at *
        go_wp2_with (first | (refine C.out.mono ?_; rintro e w1 ⟨rfl, hI1⟩; replace hI1 := Lib.hid hI1; have x1 := hc.out _ hI1.out k hlt))
        go_roundw
        case rel => exact ⟨k + 1, by omega, by omega, by go_num, by rw [hsn.out], hI1.out⟩
        case measure => simp [intOf]; omega
    · obtain rfl : k = n := by omega
      rw [hend.out]
      replace hI := Lib.hid hI
      go_wp2
      go_ret
      exact ⟨rfl, hI.out⟩
/-- What the dogs take. -/
abbrev dgT (m : Nat) (R : List Int) (x y : Nat) (i : Nat) : Nat := dngL m R x (y ||| pw i)
set_option maxRecDepth 100000 in
set_option maxHeartbeats 1000000 in
theorem careF_any (m : Nat) (a : Option Addr) (n c : Nat) (R : List Int) (x y i j g t : Nat) (w : World) (h : Ints w a R) (hn : R.length = n) (hF : FieldP m R) (hx : x < 512) (hy : y < 512) (hi : i < 9) (hj : j < 9)
    (hg : Blk w g 65 #[.int .i64 (m : Nat), .slice a n c]) (ht : Blk w t 67 #[.int .i64 (x : Nat), .int .i64 (y : Nat)]) :
    Calls Tryd.prog 93 #[.int .i64 (i : Nat), .int .i64 (j : Nat), .pointer (some ⟨g, 0, none⟩), .pointer (some ⟨t, 0, none⟩)] w (Ret (.int .i64 ((dgT m R x y i : Nat) - (dgT m R x y j : Nat))) w) := by
  have x0 := cellX (hg.c 0 rfl)
  have x1 := cellX (hg.c 1 rfl)
  have y0 := cellX (ht.c 0 rfl)
  have y1 := cellX (ht.c 1 rfl)
  clear hg ht
  have A1 := Lib.hid (fun W => (show Calls Tryd.prog 94 #[pV x y, .int .i64 1, .int .i64 (i : Nat)] W (Ret (pV x (y ||| pw i)) W) from taken_any x y 1 i (by omega) (by omega) (by omega) (by omega) W))
  have A2 := Lib.hid (fun W => (show Calls Tryd.prog 94 #[pV x y, .int .i64 1, .int .i64 (j : Nat)] W (Ret (pV x (y ||| pw j)) W) from taken_any x y 1 j (by omega) (by omega) (by omega) (by omega) W))
  have D1 := Lib.hid (fun W hW => danger_any m a n c R x (y ||| pw i) W hW hn hF (by omega) (or_lt (by omega) (by omega)))
  have D2 := Lib.hid (fun W hW => danger_any m a n c R x (y ||| pw j) W hW hn hF (by omega) (or_lt (by omega) (by omega)))
  have hI := Lib.hid h
  have hle : ∀ v, dngL m R x v ≤ 6144 := fun v => by
    have := dng_le hF.le x v R
    have := hF.few
    omega
  have h1 := hle (y ||| pw i)
  have h2 := hle (y ||| pw j)
  clear hle h hn
  unfold dgT
  generalize dngL m R x (y ||| pw i) = p at *
  generalize dngL m R x (y ||| pw j) = q at *
  generalize y ||| pw i = yi at *
  generalize y ||| pw j = yj at *
  have hsub := IntWalk.i64_in ((p : Int) - (q : Int)) (by omega)
  have K1 := Lib.hid (fun (z : Ext w) => callE (D1.out z.world (hI.out.next z.ok)))
  have K2 := Lib.hid (fun (z : Ext w) => callE (D2.out z.world (hI.out.next z.ok)))
  replace hF := Lib.hid hF
  go_enter Tryd.func93, Tryd.ntmps93
  go_wp2
  refine wp_region_ext (by kernel_rfl) (by kernel_rfl) ?_
  repeat (go_big_quiet_step (first | exact rfl | with_reducible exact callE (A1.out _) | with_reducible exact callE (A2.out _) | with_reducible exact K1.out _ | with_reducible exact K2.out _))
  refine wpQuiet_nil ?_
  rintro ⟨w2, hw2⟩
  dsimp only
  clear x0 x1 y0 y1
  go_wp2
  go_ret
  exact Ret.mk (by first | rfl | rw [hsub]) hw2
end Go.Proofs.YtgafmloljcgnoaaDoor
