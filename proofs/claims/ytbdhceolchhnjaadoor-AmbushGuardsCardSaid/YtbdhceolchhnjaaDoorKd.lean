/- Layer 4, by the specification: Winner and Move. -/
import Derived.Test.YtbdhceolchhnjaaDoorKc
namespace Go.Proofs.YtbdhceolchhnjaaDoor
open Go Go.RowKit

section
variable (m : Nat) (a : Option Addr) (n c : Nat) (R : List Int) (G K : Nat) (w0 : World)
theorem wolves_any (hF : FieldP m R) (hn : R.length = n) : ∀ k x y s w, (frL m x y).length = k → StR m a n c R G K w0 w → PosP m x y → s < 2 →
    Calls Tryd.prog 46 #[.pointer (some ⟨G, 0, none⟩), .int .i64 (x : Nat), .int .i64 (y : Nat), .int .i64 (s : Nat)] w (WoR m R K (.bool (win m R x y (s == 1))) w) := by
  intro k
  induction k using Nat.strongRecOn with
  | _ k ih =>
    intro x y s w hk hst hp hs
    obtain rfl | rfl : s = 0 ∨ s = 1 := by omega
    · refine wolves0_step m a n c R G K w0 hF hn hst hp fun i hi W hW => ?_
      have := ih _ (by have := frL_takeW hi; omega) (x + pw i) y 1 W rfl hW (hp.takeW hi) (by omega)
      rw [Int.natCast_add] at this
      exact this
    · refine wolves1_step m a n c R G K w0 hF hn hst hp fun i hi W hW => ?_
      have := ih _ (by have := frL_takeD hi; omega) x (y + pw i) 0 W rfl hW (hp.takeD hi) (by omega)
      rw [Int.natCast_add] at this
      exact this
end
theorem StR.made {m : Nat} {a : Option Addr} {n c : Nat} {R : List Int} {G K : Nat} {w w1 w2 : World} (hI : Ints w a R) (hb : Below w.heap.size w w1) (h1 : w1.heap.size ≤ G) (h2 : w1.heap.size ≤ K) (hne : G ≠ K)
    (hG : Blk w2 G 106 #[.int .i64 (m : Nat), .slice a n c, .slice (some ⟨K, 0, none⟩) (kN m) (kN m)]) (hK : Blk w2 K 3 (cN m fun _ => 0)) (hb2 : Below w1.heap.size w1 w2) : StR m a n c R G K w w2 :=
  ⟨nextB hb hb2, ⟨_, hK, fun _ _ _ _ _ => .inl rfl⟩, Nat.le_trans hb.size h1, Nat.le_trans hb.size h2, hne, hG, hI⟩
theorem wB_zeroF {m : Nat} {R : List Int} {x y i : Nat} (hi : i ∈ frL m x y) : wB m R x y 0 i = win m R (x + pw i) y true := by
  obtain ⟨_, h2, _⟩ := frL_mem.1 hi
  unfold wB wafter tkW tkD
  simp only [if_true]
  rw [or_eq_add h2]
  show (sd (win m R (x + pw i) y true) == 0) = _
  cases win m R (x + pw i) y true <;> rfl
theorem wB_oneF {m : Nat} {R : List Int} {x y i : Nat} (hi : i ∈ frL m x y) : wB m R x y 1 i = !(win m R x (y + pw i) false) := by
  obtain ⟨_, _, h3⟩ := frL_mem.1 hi
  unfold wB wafter tkW tkD
  rw [if_neg (by omega), if_neg (by omega), or_eq_add h3]
  show (sd (win m R x (y + pw i) false) == 1) = _
  cases win m R x (y + pw i) false <;> rfl
theorem frL_find (m x y : Nat) (q : Nat → Bool) : mvL (frL m x y) q = ((List.range m).find? fun i => frB x y i && q i).getD (((List.range m).find? fun i => frB x y i).getD 0) := by
  unfold mvL frL
  rw [List.find?_filter, List.headD_eq_head?_getD, List.head?_filter]
  have e : (fun i => decide (frB x y i = true ∧ q i = true)) = fun i => frB x y i && q i := by
    funext i
    cases frB x y i <;> cases q i <;> rfl
  rw [e]
theorem frB_of {m x y i : Nat} (hi : i ∈ frL m x y) : i < m ∧ frB x y i = true := by
  obtain ⟨h1, h2, h3⟩ := frL_mem.1 hi
  exact ⟨h1, by unfold frB; rw [h2, h3]; rfl⟩
theorem of_frB {m x y i : Nat} (h1 : i < m) (h : frB x y i = true) : i ∈ frL m x y := List.mem_filter.2 ⟨List.mem_range.2 h1, h⟩
theorem mv_some {m x y i : Nat} {q : Nat → Bool} (hi : i ∈ frL m x y) (hq : q i = true) (hno : ∀ j, j < i → j ∈ frL m x y → q j = false) : mvL (frL m x y) q = i := by
  obtain ⟨h1, h2⟩ := frB_of hi
  rw [frL_find, (List.find?_range_eq_some (n := m) (i := i) (p := fun i => frB x y i && q i)).2 ⟨by rw [h2, hq]; rfl, List.mem_range.2 h1, fun j hj => ?_⟩]
  · rfl
  · cases hb : frB x y j
    · rfl
    · rw [hno j hj (of_frB (by omega) hb)]; rfl
theorem mv_none {m x y i : Nat} {q : Nat → Bool} (hi : i ∈ frL m x y) (hlo : ∀ j, j < i → j ∉ frL m x y) (hno : ∀ j, j < m → j ∈ frL m x y → q j = false) : mvL (frL m x y) q = i := by
  obtain ⟨h1, h2⟩ := frB_of hi
  rw [frL_find, (List.find?_range_eq_some (n := m) (i := i) (p := fun i => frB x y i)).2 ⟨h2, List.mem_range.2 h1, fun j hj => ?_⟩]
  · have : ((List.range m).find? fun i => frB x y i && q i) = none := List.find?_eq_none.2 fun j hj => by
      have hjm := List.mem_range.1 hj
      cases hb : frB x y j
      · simp
      · rw [hno j hjm (of_frB hjm hb)]; simp
    rw [this]; rfl
  · cases hb : frB x y j
    · rfl
    · exact absurd (of_frB (by omega) hb) (hlo j hj)
set_option maxRecDepth 100000 in
set_option maxHeartbeats 4000000 in
theorem refWinner_any (x : Int) (a : Option Addr) (n c : Nat) (R : List Int) (s t : ByteArray) (w : World) (h : Ints w a R) (hn : R.length = n) :
    Calls Tryd.prog 13 #[.int .i64 x, .slice a n c, .string s, .string t] w (Ret (.tuple #[.string (winS x R s t), .int .i64 (tE x R s t : Nat)]) w) := by
  have PL := Lib.hid (refPlaced_any x a n c R s w h hn)
  have TU := Lib.hid (fun W => refTurn_any t W)
  obtain ⟨e, he⟩ : ∃ e, pE x R s = e := ⟨_, rfl⟩
  rw [he] at PL
  have he6 : e < 6 := by rw [← he]; exact pE_lt x R s
  have hte : tE x R s t = if e = 0 then (if isSide t = true then 0 else 5) else e := by unfold tE; rw [he]
  obtain ⟨r, hr⟩ : ∃ r, Hid (winS x R s t = r) := ⟨_, Lib.hid rfl⟩
  rw [hr.out]
  by_cases h1 : e = 0
  · subst h1
    simp only [if_true] at PL hte
    obtain ⟨hx, hF, hsz, _⟩ := pE_ok he
    obtain ⟨m, hm⟩ : ∃ m, x.toNat = m := ⟨_, rfl⟩
    have hr2 := hr.out
    unfold winS at hr2
    rw [hm] at hx hF hr2 PL hsz
    subst hx
    cases hside : isSide t
    · rw [hside] at TU hte
      simp only [Bool.false_eq_true, if_false] at TU hte
      rw [hte] at hr2 ⊢
      rw [if_neg (by omega)] at hr2
      unfold strE at hr2
      subst hr2
      generalize psB s 119 m = u at *
      generalize psB s 100 m = v at *
      generalize sideN t = sn at *
      clear hr he h hF
      go_enter Tryd.func13, Tryd.ntmps13
      go_wp2_with (first
        | (go_at_call 30; refine PL.out.mono ?_; rintro e w1 ⟨rfl, hb1⟩)
        | (go_at_call 44; refine (TU.out _).mono ?_; rintro e w2 ⟨rfl, rfl⟩))
      go_ret2
      exact Ret.mk rfl hb1
    · rw [hside] at TU hte
      simp only [if_true] at TU hte
      rw [hte] at hr2 ⊢
      rw [if_pos rfl] at hr2
      have hp := psB_pos s m
      have hsn := sideN_lt t
      have NG := Lib.hid (fun W => refNew_any m a n c hF.le W)
      have WN := Lib.hid (fun G K W (hst : StR m a n c R G K w W) => wolves_any m a n c R G K w hF hn _ (psB s 119 m) (psB s 100 m) (sideN t) W rfl hst hp hsn)
      have MK := Lib.hid (fun G K w1 w2 hb h1 h2 hne hG hK hb2 => StR.made (m := m) (a := a) (n := n) (c := c) (R := R) (G := G) (K := K) (w := w) (w1 := w1) (w2 := w2) h hb h1 h2 hne hG hK hb2)
      generalize psB s 119 m = u at *
      generalize psB s 100 m = v at *
      generalize sideN t = sn at *
      replace hF := Lib.hid hF
      replace hp := Lib.hid hp
      clear h he hr
      cases hwin : win m R u v (sn == 1)
      all_goals
        rw [hwin] at WN hr2
        first
          | (have e0 : r = strD := by rw [← hr2]; rfl
             unfold strD at e0)
          | (have e0 : r = strW := by rw [← hr2]; rfl
             unfold strW at e0)
        subst e0
        replace hr2 := Lib.hid hr2
        go_enter Tryd.func13, Tryd.ntmps13
        go_wp2_with (first
          | (go_at_call 30; refine PL.out.mono ?_; rintro e w1 ⟨rfl, hb1⟩)
          | (go_at_call 44; refine (TU.out _).mono ?_; rintro e w2 ⟨rfl, rfl⟩)
          | (go_at_call 45; refine (NG.out _).mono ?_; rintro e w3 ⟨G, K, rfl, hG, hK, hne, hbG, hbK, hb3⟩; have hst := Lib.hid (MK.out G K _ _ hb1 hG hK hne hbG hbK hb3))
          | (go_at_call 46; refine (WN.out _ _ _ hst.out).mono ?_; rintro e w4 ⟨rfl, hK4, hN4⟩))
        go_ret2
        exact Ret.mk rfl (hK4.below hst.out.below hst.out.loK)
  · rw [if_neg h1] at hte
    rw [hte]
    have hr2 : r = strE := by rw [← hr.out]; unfold winS; rw [hte, if_neg h1]
    unfold strE at hr2
    subst hr2
    have d1 : ((e : Int) != 0) = true := by rw [bne_iff_ne]; omega
    simp only [if_neg h1] at PL
    clear hr he h hte
    go_enter Tryd.func13, Tryd.ntmps13
    go_wp2_with (first
      | (go_at_call 30; refine PL.out.mono ?_; rintro e w1 ⟨rfl, hb1⟩))
    go_ret2
    exact Ret.mk rfl hb1
end Go.Proofs.YtbdhceolchhnjaaDoor
