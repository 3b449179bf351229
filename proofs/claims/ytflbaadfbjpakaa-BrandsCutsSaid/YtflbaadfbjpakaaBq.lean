/- Layer 2: slices.Delete of one element; a list without an ear. -/
import Derived.Test.YtflbaadfbjpakaaBp
namespace Go.Proofs.Ytflbaadfbjpakaa
open Go Go.RowKit

theorem zeroI : ∀ w, (zeroValue 3).run Try.prog w = .ok (.int .i64 0) w := fun _ => by kernel_rfl
set_option maxRecDepth 100000 in
set_option maxHeartbeats 4000000 in
theorem delete_any (base g n cap i : Nat) (X : List Value) (w : World) (hown : w.ownsRow base 3 1 (.slice (some ⟨g, 0, none⟩) n cap) n X) (h1X : ∀ u ∈ X, u.oneCell' = true) (hi : i < n) (h60 : n ≤ 1000) :
    Calls Try.prog 78 #[.slice (some ⟨g, 0, none⟩) n cap, .int .i64 i, .int .i64 ((i : Int) + 1)] w fun e w' => e = .returned (.slice (some ⟨g, 0, none⟩) (n - 1) cap) ∧
      w'.ownsRow base 3 1 (.slice (some ⟨g, 0, none⟩) (n - 1) cap) (n - 1) (X.eraseIdx i) ∧ w.grownBy w' (some g) := by
  obtain ⟨i0, hi0, hz0, hz1, hz2⟩ := info_parts infoInt
  have G0 := Lib.hid hi0
  have G2 := Lib.hid hz1
  clear hi0 hz0 hz1 hz2
  obtain ⟨hcap, hcm⟩ := own_cap hown
  unfold maxLen at hcm
  have hXl : X.length = n := by have := hown.1; omega
  obtain ⟨news, hnews⟩ : ∃ news, news = X.drop (i + 1) := ⟨_, rfl⟩
  have hlen : news.length = n - (i + 1) := by rw [hnews]; simp; omega
  obtain ⟨A, hA, hsrc⟩ : ∃ A : Addr, (if cap = i + 1 then some (⟨g, 0, none⟩ : Addr) else some ⟨g, i + 1, none⟩) = some A ∧ Hid (∀ t u, news[t]? = some u → w.drew.cell? (A.add t) = some u) := by
    by_cases h : cap = i + 1
    · refine ⟨⟨g, 0, none⟩, by simp [h], fun t u hu => ?_⟩
      have h0 : news.length = 0 := by rw [hlen]; omega
      rw [List.length_eq_zero_iff.1 h0] at hu
      simp at hu
    · refine ⟨⟨g, i + 1, none⟩, by simp [h], fun t u hu => ?_⟩
      have ht : t < n - (i + 1) := by
        have := (List.getElem?_eq_some_iff.1 hu).1
        rwa [hlen] at this
      rw [hnews, List.getElem?_drop] at hu
      rw [show Addr.add ⟨g, i + 1, none⟩ t = ⟨g, i + 1 + t, none⟩ by simp [Addr.add]]
      show w.cell? _ = _
      rw [hown.cellAt _ (by omega)]
      exact hu
  have s1 := Lib.hid (show news.length = (n - (i + 1)) * 1 by rw [Nat.mul_one]; exact hlen)
  have s2 := Lib.hid (show ∀ u ∈ news, u.oneCell' = true from fun u hu => h1X u (List.mem_of_mem_drop (hnews ▸ hu)))
  have s3 := Lib.hid (show ∀ t, t < news.length → (w.drew.cell? ⟨g, 0 + i * 1 + t, none⟩).isSome = true ∧ w.drew.frozen? ⟨g, 0 + i * 1 + t, none⟩ = false from fun t ht => by
    rw [hlen] at ht
    exact ⟨own_isSome (own_drew hown) _ (by omega), (own_drew hown).frozenAt _⟩)
  obtain ⟨W1, hW1⟩ : ∃ W1, W1 = w.drew.setCells g (0 + i * 1) news := ⟨_, rfl⟩
  obtain ⟨o1, o2⟩ := own_setCells news (0 + i * 1) X w.drew (own_drew hown)
  rw [← hW1] at o1 o2
  have hcl : ∀ ty, (Builtin.clear_ #[30] ty #[.slice (some ⟨g, i + (n - (i + 1)), none⟩) (n - (i + (n - (i + 1)))) (cap - (i + (n - (i + 1))))]).run Try.prog W1 = .ok (.tuple #[]) (W1.setCells g (i + (n - (i + 1))) (List.replicate (n - (i + (n - (i + 1)))) (.int .i64 0))) :=
    fun ty => Lib.run_clear_slice W1 _ _ ty _ Try.underlying30 zeroI rfl rfl g (i + (n - (i + 1))) _ _ (by omega) (fun t ht => own_isSome o1 _ (by omega)) (fun t ht => o1.frozenAt _)
  obtain ⟨p1, p2⟩ := own_setCells (List.replicate (n - (i + (n - (i + 1)))) (.int .i64 0)) (i + (n - (i + 1))) _ W1 o1
  have P1 : Hid ((W1.setCells g (i + (n - (i + 1))) (List.replicate (n - (i + (n - (i + 1)))) (.int .i64 0))).ownsRow base 3 1 (.slice (some ⟨g, 0, none⟩) (n - 1) cap) (n - 1) (X.eraseIdx i)) := by
    have := own_take p1 (n - 1) (by omega)
    rw [show n - (i + (n - (i + 1))) = 1 by omega, show i + (n - (i + 1)) = n - 1 by omega, hnews] at this
    simp only [Nat.zero_add, Nat.mul_one, List.replicate_one] at this
    rw [erase_take hXl hi] at this
    rw [show n - (i + (n - (i + 1))) = 1 by omega, show i + (n - (i + 1)) = n - 1 by omega]
    exact this
  have P2 : Hid (w.grownBy (W1.setCells g (i + (n - (i + 1))) (List.replicate (n - (i + (n - (i + 1)))) (.int .i64 0))) (some g)) := ⟨p2.os.trans o2.os, p2.tape.trans o2.tape, p2.output.trans o2.output, Nat.le_trans o2.size p2.size, fun k hk hne => (p2.block k (Nat.lt_of_lt_of_le hk o2.size) hne).trans (o2.block k hk hne)⟩
  have hW := Lib.hid hW1
  have hic : i ≤ cap := by omega
  have hjc : i + 1 ≤ cap := by omega
  have hne : ((i : Int) == (i : Int) + 1) = false := by rw [beq_eq_false_iff_ne]; omega
  have w1 : (i : Int) + 1 ≤ (n : Int) := by omega
  have w2 : (0 : Int) ≤ (i : Int) + 1 := by omega
  have w3 : ((i : Int) + 1).toNat = i + 1 := by omega
  have hx1 := Lib.hid hXl
  clear hW1 o1 o2 p1 p2 hown hnews hlen hXl h1X
  go_enter Try.func78, Try.ntmps78
  go_wp2_with fail
  go_region_law (refine step_append_room rfl (.tmp 22) (.tmp 25) 30 rfl 3 i0 1 Try.underlying30 G0.out G2.out g 0 i cap (by simp [Act.eval, Act.put]) A (n - (i + 1)) (cap - (i + 1)) news (by simp [Act.eval, Act.put]) s1.out hsrc.out s2.out (by omega) s3.out ?_; rw [← hW.out])
  go_wp2
  go_ret
  exact ⟨by rw [show n - 1 = i + (n - (i + 1)) by omega]; rfl, P1.out, P2.out⟩
/-- The list without the number at c, whose neighbours are made less by 1. -/
def cutL (xs : List Int) (c : Nat) : List Int :=
  let n := xs.length
  let ys := xs.set ((c + n - 1) % n) (nth xs ((c + n - 1) % n) - 1)
  let zs := ys.set ((c + 1) % n) (nth ys ((c + 1) % n) - 1)
  zs.eraseIdx c
theorem lI_set (xs : List Int) (i : Nat) (v : Int) : (lI xs).set i (.int .i64 v) = lI (xs.set i v) := by simp [lI, List.map_set]
theorem lI_erase (xs : List Int) (i : Nat) : (lI xs).eraseIdx i = lI (xs.eraseIdx i) := by
  unfold lI
  induction xs generalizing i with
  | nil => rfl
  | cons x xs ih => cases i with
    | zero => rfl
    | succ i => simp [ih]
theorem lI_one (xs : List Int) : ∀ u ∈ lI xs, u.oneCell' = true := fun u hu => by
  obtain ⟨x, _, rfl⟩ := List.mem_map.1 hu
  rfl
/-- All numbers are from 0 to 1000. -/
def Fair (xs : List Int) : Prop := ∀ i, i < xs.length → 0 ≤ nth xs i ∧ nth xs i ≤ 1000
set_option maxRecDepth 100000 in
set_option maxHeartbeats 1600000 in
theorem cut_any (b off n cp c : Nat) (xs : List Int) (w : World) (hl : xs.length = n) (h1 : 3 ≤ n) (h12 : n ≤ 12) (hcn : c < n) (hf : Fair xs)
    (hc : ∀ i, i < n → w.cell? ⟨b, off + i, none⟩ = some (.int .i64 (nth xs i))) :
    Calls Try.prog 65 #[.slice (some ⟨b, off, none⟩) n cp, .int .i64 c] w fun e w' => ∃ g cap, e = .returned (.slice (some ⟨g, 0, none⟩) (n - 1) cap) ∧
      w'.ownsRow w.heap.size 3 1 (.slice (some ⟨g, 0, none⟩) (n - 1) cap) (n - 1) (lI (cutL xs c)) ∧ Below w.heap.size w w' := by
  have C := Lib.hid (clone_any b off n cp xs w hl (by omega) (by omega) hc)
  obtain ⟨m0, m1, m2⟩ := mod_ahead c n (by omega)
  obtain ⟨m3, m4, m5⟩ := mod_at1 c n (by omega)
  have ha : (c + n - 1) % n < n := Nat.mod_lt _ (by omega)
  have hb : (c + 1) % n < n := Nat.mod_lt _ (by omega)
  have hcut : Hid (cutL xs c = ((xs.set ((c + n - 1) % n) (nth xs ((c + n - 1) % n) - 1)).set ((c + 1) % n) (nth (xs.set ((c + n - 1) % n) (nth xs ((c + n - 1) % n) - 1)) ((c + 1) % n) - 1)).eraseIdx c) := by
    subst hl; exact Lib.hid rfl
  have A := fun W => ahead_any n c W (by omega) (by omega) (by omega) (by omega)
  have B := fun W => after_any n c W (by omega) (by omega) (by omega)
  obtain ⟨x, hx⟩ : ∃ x, x = nth xs ((c + n - 1) % n) := ⟨_, rfl⟩
  obtain ⟨ys, hys⟩ : ∃ ys, ys = xs.set ((c + n - 1) % n) (x - 1) := ⟨_, rfl⟩
  obtain ⟨y, hy⟩ : ∃ y, y = nth ys ((c + 1) % n) := ⟨_, rfl⟩
  rw [← hx, ← hys, ← hy] at hcut
  have hyl : ys.length = n := by rw [hys]; simp [hl]
  have hx0 := hf _ (show (c + n - 1) % n < xs.length by omega)
  rw [← hx] at hx0
  have hy0 : -1 ≤ y ∧ y ≤ 1000 := by
    rw [hy, hys, nth_set (by omega)]
    split
    · omega
    · have := hf _ (show (c + 1) % n < xs.length by omega); omega
  obtain ⟨hx1, hx2⟩ := hx0
  obtain ⟨hy1, hy2⟩ := hy0
  have g1 : Hid ((lI xs)[(c + n - 1) % n]? = some (.int .i64 x)) := Lib.hid (by rw [lI_get (by omega), hx])
  have g2 : Hid ((lI ys)[(c + 1) % n]? = some (.int .i64 y)) := Lib.hid (by rw [lI_get (by omega), hy])
  have gs : Hid ((lI xs).set ((c + n - 1) % n) (.int .i64 (x - 1)) = lI ys) := Lib.hid (by rw [lI_set, hys])
  have gz : Hid (((lI ys).set ((c + 1) % n) (.int .i64 (y - 1))).eraseIdx c = lI (cutL xs c)) := Lib.hid (by rw [lI_set, lI_erase, hcut.out])
  clear hx hys hy hcut hf hc hl hyl
  go_enter Try.func65, Try.ntmps65
  go_wp2_with (first
    | (go_at_call 66; refine C.out.mono ?_; rintro e w1 ⟨g, cap, rfl, hown, B0⟩; have e1 := hown.cellAt ((c + n - 1) % n) (by omega); rw [g1.out] at e1; have f1 := hown.frozenAt ((c + n - 1) % n))
    | (go_at_call 77; refine (A _).mono ?_; rintro e w1 ⟨rfl, rfl⟩))
  have hw1 : w.heap.size ≤ g ∧ g < w1.heap.size := hown.lt g rfl
  have st := hown.stored ((c + n - 1) % n) (.int .i64 (x - 1))
  rw [gs.out] at st
  refine calls_at (F := fun W => W.ownsRow w.heap.size 3 1 (.slice (some ⟨g, 0, none⟩) n cap) n (lI ys) ∧ Below w.heap.size w W) ⟨st.1, B0.setCell (p := ⟨g, _, none⟩) hw1.1 _⟩ ?_
  clear st hown B0 e1 f1
  rintro W2 ⟨hown, B0⟩
  refine (B _).mono ?_
  rintro e w2 ⟨rfl, rfl⟩
  dsimp only
  have e1 := hown.cellAt ((c + 1) % n) (by omega)
  rw [g2.out] at e1
  have f1 := hown.frozenAt ((c + 1) % n)
  have hw2 := hown.lt _ rfl
  go_wp2_with fail
  have st := hown.stored ((c + 1) % n) (.int .i64 (y - 1))
  refine calls_at (F := fun W => W.ownsRow w.heap.size 3 1 (.slice (some ⟨g, 0, none⟩) n cap) n ((lI ys).set ((c + 1) % n) (.int .i64 (y - 1))) ∧ Below w.heap.size w W) ⟨st.1, B0.setCell (p := ⟨g, _, none⟩) hw1.1 _⟩ ?_
  clear st hown B0 e1 f1 hw2
  rintro W3 ⟨hown, B0⟩
  refine (delete_any w.heap.size g n cap c _ W3 hown (by rw [lI_set]; exact lI_one _) hcn (by omega)).mono ?_
  rintro e w3 ⟨rfl, hown3, hg3⟩
  rw [gz.out] at hown3
  dsimp only
  go_wp2
  go_ret
  have hsz := B0.size
  exact ⟨g, cap, rfl, hown3, B0.grown hg3 (by omega) (fun k hk => by cases hk; exact hw1.1)⟩
end Go.Proofs.Ytflbaadfbjpakaa
