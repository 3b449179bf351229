/- Layer 4, by the program: pairs of spots; do they guard each line. -/
import Derived.Test.YtbdhceolchhnjaaDoorAt
namespace Go.Proofs.YtbdhceolchhnjaaDoor
open Go Go.RowKit

/-- The i-th pair. -/
def pth (L : List (Int × Int)) (i : Nat) : Int × Int := L.getD i (0, 0)
theorem pth_mem {L : List (Int × Int)} {i : Nat} (h : i < L.length) : pth L i ∈ L := by
  unfold pth; rw [List.getD_eq_getElem?_getD, List.getElem?_eq_getElem h]; exact List.getElem_mem h
theorem mem_pth {L : List (Int × Int)} {x : Int × Int} (h : x ∈ L) : ∃ i, i < L.length ∧ pth L i = x := by
  obtain ⟨i, hi, rfl⟩ := List.mem_iff_getElem.1 h
  exact ⟨i, hi, by simp [pth, hi]⟩
/-- The slice at a holds the pairs L. -/
def Prs (w : World) (a : Option Addr) (L : List (Int × Int)) : Prop :=
  L.length = 0 ∨ ∃ b off, a = some ⟨b, off, none⟩ ∧ ∀ i, i < L.length → w.cell? ⟨b, off + i * 2, none⟩ = some (.int .i64 (pth L i).1) ∧ w.cell? ⟨b, off + i * 2 + 1, none⟩ = some (.int .i64 (pth L i).2)
theorem Prs.next {w w' : World} {a : Option Addr} {L : List (Int × Int)} (h : Prs w a L) (hb : Below w.heap.size w w') : Prs w' a L := by
  rcases h with h | ⟨b, off, e, hc⟩
  · exact .inl h
  · exact .inr ⟨b, off, e, fun i hi => ⟨cellB hb (hc i hi).1, cellB hb (hc i hi).2⟩⟩

theorem prs_at {w : World} {a : Option Addr} {L : List (Int × Int)} (h : Prs w a L) (hn : 0 < L.length) :
    ∃ b off, a = some ⟨b, off, none⟩ ∧ ∀ i, i < L.length → w.cell? ⟨b, off + i * 2, none⟩ = some (.int .i64 (pth L i).1) ∧ w.cell? ⟨b, off + i * 2 + 1, none⟩ = some (.int .i64 (pth L i).2) := by
  rcases h with h | h
  · omega
  · exact h
theorem ext_pth {xs ys : List (Int × Int)} (h : xs.length = ys.length) (hh : ∀ i, i < xs.length → pth xs i = pth ys i) : xs = ys := by
  apply List.ext_getElem h
  intro i h1 h2
  have := hh i h1
  simpa [pth, h1, h2] using this
/-- The cells of pairs. -/
def cP (L : List (Int × Int)) : List Value := L.flatMap fun q => [.int .i64 q.1, .int .i64 q.2]
theorem cP_append (L M : List (Int × Int)) : cP (L ++ M) = cP L ++ cP M := by simp [cP]
theorem cP_length (L : List (Int × Int)) : (cP L).length = L.length * 2 := by
  induction L with
  | nil => rfl
  | cons t T ih => rw [cP, List.flatMap_cons, List.length_append, ← cP, ih, List.length_cons]; simp; omega
theorem cP_at (L : List (Int × Int)) (i : Nat) (h : i < L.length) : (cP L)[i * 2]? = some (.int .i64 (pth L i).1) ∧ (cP L)[i * 2 + 1]? = some (.int .i64 (pth L i).2) := by
  induction L generalizing i with
  | nil => simp at h
  | cons t T ih =>
    have e : cP (t :: T) = [.int .i64 t.1, .int .i64 t.2] ++ cP T := by simp [cP]
    rw [e]
    cases i with
    | zero => simp [pth]
    | succ i =>
      simp only [List.length_cons] at h
      have hi := ih i (by omega)
      have et : pth (t :: T) (i + 1) = pth T i := by simp [pth]
      rw [et, List.getElem?_append_right (by simp; omega), List.getElem?_append_right (by simp; omega)]
      simp only [List.length_cons, List.length_nil]
      rw [show (i + 1) * 2 - (0 + 1 + 1) = i * 2 by omega, show (i + 1) * 2 + 1 - (0 + 1 + 1) = i * 2 + 1 by omega]
      exact hi
theorem cP_one (L : List (Int × Int)) : ∀ u ∈ cP L, u.oneCell' = true := fun u hu => by
  simp only [cP, List.mem_flatMap, List.mem_cons, List.not_mem_nil, or_false] at hu
  obtain ⟨i, _, h | h⟩ := hu <;> (subst h; rfl)
/-- Pairs in a row of the call's own, read. -/
theorem own_prs {w : World} {base : Nat} {v : Value} {L : List (Int × Int)} {e : TypeId} (h : w.ownsRow base e 2 v L.length (cP L)) : ∃ a c, v = .slice a L.length c ∧ L.length ≤ c ∧ Prs w a L := by
  have h0 := h
  rcases h.2 with ⟨rfl, h2⟩ | ⟨g, cap, cur, rfl, hg, hh, hcap, r⟩
  · exact ⟨none, 0, by rw [h2], by omega, .inl h2⟩
  · refine ⟨some ⟨g, 0, none⟩, cap, rfl, hcap, .inr ⟨g, 0, rfl, fun i hi => ?_⟩⟩
    obtain ⟨c1, c2⟩ := cP_at L i hi
    rw [Nat.zero_add, h0.cellAt _ (by omega), h0.cellAt _ (by omega)]
    exact ⟨c1, c2⟩
set_option maxRecDepth 100000 in
set_option maxHeartbeats 800000 in
theorem indexFP_any (fn : FuncId) (caps : Array Value) (I : World → Prop) (p : Nat → Bool) (L : List (Int × Int)) (a : Option Addr) (n c : Nat) (w : World) (h0 : I w)
    (HE : ∀ args W, (callFunc fn args).run Tryd.prog W = .ok (.enter fn args) W) (hm : n ≤ 1000)
    (hc : 0 < n → ∃ b off, a = some ⟨b, off, none⟩ ∧ ∀ W, I W → ∀ i, i < n → W.cell? ⟨b, off + i * 2, none⟩ = some (.int .i64 (pth L i).1) ∧ W.cell? ⟨b, off + i * 2 + 1, none⟩ = some (.int .i64 (pth L i).2))
    (H : ∀ W, I W → ∀ i, i < n → (∀ j, j < i → p j = false) → Calls Tryd.prog fn (#[.agg #[.int .i64 (pth L i).1, .int .i64 (pth L i).2]] ++ caps) W (fun e w' => e = .returned (.bool (p i)) ∧ I w')) :
    Calls Tryd.prog 57 #[.slice a n c, .func (.func fn) #[] caps] w (fun e w' => ∃ r, e = .returned (.int .i64 r) ∧ FirstI p n r ∧ I w') := by
  replace H := Lib.hid H
  replace hc := Lib.hid hc
  replace h0 := Lib.hid h0
  go_enter Tryd.func57, Tryd.ntmps57
  go_wp2
  go_loopw [5, 8] (fun v i wr => ∃ k : Nat, k ≤ n ∧ i = .int .i64 k ∧ (∀ j, j < k → p j = false) ∧ I wr) (fun _ i _ => n - (intOf i).toNat)
  case atStart => exact ⟨0, by omega, rfl, fun j hj => absurd hj (by omega), h0.out⟩
  case round =>
    obtain ⟨k, hk, rfl, hno, hI⟩ := hrel
    replace hno := Lib.hid hno
    by_cases hlt : k < n
    · obtain ⟨b, off, rfl, hcc⟩ := hc.out (by omega)
      obtain ⟨x0, x1⟩ := hcc _ hI k hlt
      have hi1 : (k : Int) < (n : Int) := by omega
      have C := H.out _ hI k hlt hno.out
      replace hI := Lib.hid hI
      clear hcc
      generalize (pth L k).1 = y at *
      generalize (pth L k).2 = z at *
      cases g : p k
      · rw [g] at C
        replace C := Lib.hid C
        replace g := Lib.hid g
        go_wp2_with (first | (refine C.out.mono ?_; rintro e w1 ⟨rfl, hI1⟩; replace hI1 := Lib.hid hI1))
        go_roundw
        case rel => exact ⟨k + 1, by omega, by go_num, fun j hj => (by
          by_cases hjk : j = k
          · subst hjk; exact g.out
          · exact hno.out j (by omega)), hI1.out⟩
        case measure => simp [intOf]; omega
      · rw [g] at C
        replace C := Lib.hid C
        replace g := Lib.hid g
        go_wp2_with (first | (refine C.out.mono ?_; rintro e w1 ⟨rfl, hI1⟩; replace hI1 := Lib.hid hI1))
        go_ret
        exact ⟨_, rfl, .inr ⟨k, rfl, hlt, g.out, hno.out⟩, hI1.out⟩
    · obtain rfl : k = n := by omega
      replace hI := Lib.hid hI
      go_wp2
      go_ret
      exact ⟨_, rfl, .inl ⟨rfl, hno.out⟩, hI.out⟩
theorem containsFP_any (fn : FuncId) (caps : Array Value) (I : World → Prop) (p : Nat → Bool) (L : List (Int × Int)) (a : Option Addr) (n c : Nat) (w : World) (h0 : I w)
    (HE : ∀ args W, (callFunc fn args).run Tryd.prog W = .ok (.enter fn args) W) (hm : n ≤ 1000)
    (hc : 0 < n → ∃ b off, a = some ⟨b, off, none⟩ ∧ ∀ W, I W → ∀ i, i < n → W.cell? ⟨b, off + i * 2, none⟩ = some (.int .i64 (pth L i).1) ∧ W.cell? ⟨b, off + i * 2 + 1, none⟩ = some (.int .i64 (pth L i).2))
    (H : ∀ W, I W → ∀ i, i < n → (∀ j, j < i → p j = false) → Calls Tryd.prog fn (#[.agg #[.int .i64 (pth L i).1, .int .i64 (pth L i).2]] ++ caps) W (fun e w' => e = .returned (.bool (p i)) ∧ I w')) :
    Calls Tryd.prog 98 #[.slice a n c, .func (.func fn) #[] caps] w (fun e w' => e = .returned (.bool ((List.range n).any p)) ∧ I w') := by
  have K := Lib.hid (indexFP_any fn caps I p L a n c w h0 HE hm hc H)
  clear hc H h0
  go_enter Tryd.func98, Tryd.ntmps98
  go_wp2_with (go_at_call 57; refine K.out.mono ?_; rintro e w1 ⟨r, rfl, hr, hI⟩; replace hr := Lib.hid hr; replace hI := Lib.hid hI)
  go_ret
  refine ⟨?_, hI.out⟩
  have : decide (0 ≤ r) = (List.range n).any p := by
    rcases hr.out with ⟨rfl, h⟩ | ⟨i, rfl, h1, h2, _⟩
    · rw [decide_eq_false (by omega)]
      symm
      rw [List.any_eq_false]
      intro x hx
      rw [h x (List.mem_range.1 hx)]; simp
    · rw [decide_eq_true (by omega)]
      symm
      exact List.any_eq_true.2 ⟨i, List.mem_range.2 h1, h2⟩
  rw [← this]
  rfl
theorem any_rangeP (L : List (Int × Int)) (p : Int × Int → Bool) : (List.range L.length).any (fun i => p (pth L i)) = L.any p := by
  rw [Bool.eq_iff_iff, List.any_eq_true, List.any_eq_true]
  constructor
  · rintro ⟨i, hi, h⟩; exact ⟨_, pth_mem (List.mem_range.1 hi), h⟩
  · rintro ⟨x, hx, h⟩
    obtain ⟨i, hi, e⟩ := mem_pth hx
    exact ⟨i, List.mem_range.2 hi, by rw [e]; exact h⟩
set_option maxRecDepth 100000 in
theorem setOf_any (i k : Nat) (hi : i < 16) (hk : k < 16) (w : World) : Calls Tryd.prog 80 #[.agg #[.int .i64 (i : Nat), .int .i64 (k : Nat)]] w (Ret (.int .i64 ((pw i ||| pw k : Nat) : Int)) w) := by
  have sh1 := wrap_shl (k := i) (by omega)
  have sh2 := wrap_shl (k := k) (by omega)
  have p1 := pw_le (i := i) (by omega)
  have p2 := pw_le (i := k) (by omega)
  have o1 := i64_or_nat (pw i) (pw k) (by omega) (by omega)
  have hA := Blk.new w 58 #[.int .i64 (i : Nat), .int .i64 (k : Nat)]
  have hb := Lib.hid (b1 w (.cells #[.int .i64 (i : Nat), .int .i64 (k : Nat)] 58))
  have x0 : (w.alloc (.cells #[.int .i64 (i : Nat), .int .i64 (k : Nat)] 58)).cell? ⟨w.heap.size, 0, none⟩ = some (.int .i64 (i : Nat)) := hA.c 0 rfl
  have x1 : (w.alloc (.cells #[.int .i64 (i : Nat), .int .i64 (k : Nat)] 58)).cell? ⟨w.heap.size, 1, none⟩ = some (.int .i64 (k : Nat)) := hA.c 1 rfl
  clear hA
  go_enter Tryd.func80, Tryd.ntmps80
  go_wp2
  generalize w.alloc (.cells #[.int .i64 (i : Nat), .int .i64 (k : Nat)] 58) = w1 at *
  replace x0 := cellX x0
  replace x1 := cellX x1
  refine wp_region_ext (by kernel_rfl) (by kernel_rfl) ?_
  repeat (go_big_quiet_step (exact rfl))
  refine wpQuiet_nil ?_
  rintro ⟨w2, hw2⟩
  dsimp only
  clear x0 x1
  go_wp2
  go_ret
  exact Ret.mk rfl (nextB hb.out hw2)
end Go.Proofs.YtbdhceolchhnjaaDoor
