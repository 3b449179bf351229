/- Layer 7, by the program: all bars of some rows and columns; slices.Clone of numbers. -/
import Derived.Test.YtdafpjapepfniaaWp
import Derived.ArgAppend
import Derived.OwnWalk
import Derived.Laws.AppendOwnNone
import Derived.Lib.LazyBuf
namespace Go.Proofs.Ytdafpjapepfniaa
open Go Go.RowKit

theorem owns_base {w : World} {base base' n size : Nat} {e : TypeId} {v : Value} {xs : List Value} (h : w.ownsRow base' e size v n xs) (hb : base ≤ base') : w.ownsRow base e size v n xs := by
  obtain ⟨h1, h2⟩ := h
  refine ⟨h1, ?_⟩
  rcases h2 with h2 | ⟨g, cap, cur, hv, hg, r⟩
  · exact .inl h2
  · exact .inr ⟨g, cap, cur, hv, Nat.le_trans hb hg, r⟩
/-- append to a row of the call's own: the row stays where it is, or is new. -/
theorem wpList_append_ownX {P : Program} (w : World) {ops : Array Oper} {rest : List Oper} {o : Oper} {a : Act} {Q : Exit → Act → World → Prop} (hgd : o.guard = none) (s x : Operand) (t : TypeId)
    (ho : o.op = .call { callee := .builtin .append, args := #[s, x], argTypes := #[t, t] })
    (base : Nat) (e : TypeId) (i : TypeInfo) (z : Value) (size bytes : Nat) (ht : P.underlying t = some (.slice e)) (hi : P.info? e = some i) (hz : i.zero = some z)
    (hsize : i.size = size) (hby : i.bytes = bytes) (hzs : z.cells.size = size) (hsz : 0 < size)
    (v : Value) (n : Nat) (xs : List Value) (hs : a.eval s = v) (hown : w.ownsRow base e size v n xs)
    (ad : Addr) (m c : Nat) (news : List Value) (hx : a.eval x = .slice (some ad) m c) (hl : news.length = m * size) (hm : 0 < m) (hnews : ∀ j u, news[j]? = some u → w.cell? (ad.add j) = some u) (h1 : ∀ u ∈ news, u.oneCell' = true)
    (h63 : n + m ≤ maxLen) (hbytes : (n + m) * bytes ≤ 140737488355328) (hbase : base ≤ w.heap.size)
    (h : ∀ v' w', w'.ownsRow base e size v' (n + m) (xs ++ news) → w.grownBy w' v.ownBlock → (v'.ownBlock = v.ownBlock ∨ ∀ k, v'.ownBlock = some k → w.heap.size ≤ k) → wpList P ops Q rest (a.put o.dst v') w') : wpList P ops Q (o :: rest) a w := by
  have hfresh : ∀ v' w', w'.ownsRow w.heap.size e size v' (n + m) (xs ++ news) → w.grownBy w' none → wpList P ops Q rest (a.put o.dst v') w' := fun v' w' k1 k2 =>
    h v' w' (owns_base k1 hbase) ⟨k2.os, k2.tape, k2.output, k2.size, fun k hk _ => k2.block k hk (by simp)⟩ (.inr fun k hk => (k1.lt k hk).1)
  rcases hown.2 with ⟨rfl, rfl⟩ | ⟨g, cap, cur, rfl, hbg, hg, hnc, hcm, hcs, htake⟩
  · exact wpList_append_grows w hgd s x t ho e i z size bytes ht hi hz hsize hby hzs hsz none 0 0 xs hs (fun _ => ⟨rfl, rfl⟩) hown.1 (fun b hb => by cases hb) ad m c news hx hl hnews h1 (by omega) h63 hbytes hfresh
  · by_cases hroom : n + m ≤ cap
    · exact wpList_append_fits w hgd s x t ho base e i size ht hi hsize g n cap xs hs hown ad m c news hx hl hnews h1 hroom (fun w' k1 k2 => h _ w' k1 k2 (.inl rfl))
    · exact wpList_append_grows w hgd s x t ho e i z size bytes ht hi hz hsize hby hzs hsz (some ⟨g, 0, none⟩) n cap xs hs (fun hh => by cases hh) hown.1 (fun b hb => by cases hb; exact hown.cells (g := g) rfl) ad m c news hx hl hnews h1 (by omega) h63 hbytes hfresh
theorem lI_one (xs : List Int) : ∀ u ∈ lI xs, u.oneCell' = true := fun u hu => by
  obtain ⟨x, _, rfl⟩ := List.mem_map.1 hu
  rfl
/-- 'append([]int{}, xs...)': a copy of the call's own, nil or not. -/
theorem wpList_copy {ops : Array Oper} {rest : List Oper} {o : Oper} {a : Act} {Q : Exit → Act → World → Prop} {w : World} (hgd : o.guard = none) (s x : Operand)
    (ho : o.op = .call { callee := .builtin .append, args := #[s, x], argTypes := #[22, 22] })
    (base : Nat) (v : Value) (hs : a.eval s = v) (hown : w.ownsRow base 3 1 v 0 []) (ad : Option Addr) (n c : Nat) (xs : List Int) (hx : a.eval x = .slice ad n c)
    (hI : Ints w ad xs) (hl : xs.length = n) (hnil : ad = none → c = 0) (hn : n ≤ 1000) (hbase : base ≤ w.heap.size)
    (h : ∀ a' c' w', w'.ownsRow base 3 1 (.slice a' n c') n (lI xs) → w.grownBy w' v.ownBlock → n ≤ c' → Ints w' a' xs → wpList Try.prog ops Q rest (a.put o.dst (.slice a' n c')) w') : wpList Try.prog ops Q (o :: rest) a w := by
  obtain ⟨i0, hi, hz0, hz1, hz2⟩ := info_parts infoInt
  cases ad with
  | none =>
    have hn0 : n = 0 := by
      rcases hI with h0 | ⟨b, off, e, _⟩
      · omega
      · cases e
    subst hn0
    have hc : c = 0 := hnil rfl
    subst hc
    have hx0 : xs = [] := List.eq_nil_of_length_eq_zero hl
    subst hx0
    refine wpList_append_own_none hgd s x 22 ho base 3 i0 1 Try.underlying22 hi v 0 [] hs hown hx ?_
    obtain ⟨a', c', rfl, hc', hI'⟩ := own_intsA (xs := []) hown rfl
    exact h a' c' w hown ⟨rfl, rfl, rfl, Nat.le_refl _, fun _ _ _ => rfl⟩ hc' hI'
  | some ad =>
    refine wpList_append_own _ hgd s x 22 ho base 3 i0 (.int .i64 0) 1 8 Try.underlying22 hi hz0 hz1 hz2 rfl (by decide) v 0 [] hs hown ad n c (lI xs) hx (by rw [lI_length]; omega) ?_ (lI_one xs) (by unfold maxLen; omega) (by omega) hbase ?_
    · intro j u hj
      have hjl : j < xs.length := by have := (List.getElem?_eq_some_iff.1 hj).1; rwa [lI_length] at this
      rcases hI with h0 | ⟨b, off, e, hc⟩
      · omega
      · cases e
        rw [lI_get hjl] at hj
        cases hj
        have ha : Addr.add ⟨b, off, none⟩ j = ⟨b, off + j, none⟩ := by simp [Addr.add]
        rw [ha]
        exact hc j hjl
    · intro v' w' hown' hg _
      rw [Nat.zero_add, List.nil_append] at hown'
      obtain ⟨a', c', rfl, hc', hI'⟩ := own_intsA hown' hl
      exact h a' c' w' hown' hg hc' hI'
set_option maxRecDepth 100000 in
theorem clone_any (b off n c : Nat) (xs : List Int) (w : World) (hI : Ints w (some ⟨b, off, none⟩) xs) (hl : xs.length = n) (hn : n ≤ 1000) :
    Calls Try.prog 64 #[.slice (some ⟨b, off, none⟩) n c] w (NewI xs w) := by
  have hs := Lib.hid (World.ownsRow_lit (base := w.heap.size) (e := 3) (size := 1) w #[] 0 (Nat.le_refl _) (by unfold maxLen; omega) rfl)
  have hI := Lib.hid (hI.next (b1 w (.cells #[] 3)))
  have hl := Lib.hid hl
  have qT : ∀ (w : World) (a : Option Addr) (n c : Nat), (binOp .eql 22 (.slice a n c) (.slice none 0 0)).run Try.prog w = .ok (.bool a.isNone) w := fun w a n c => run_eql_slice_nil w _ 3 a n c Try.underlying22
  go_enter Try.func64, Try.ntmps64
  go_wp2_with (at_builtin; refine wpList_copy rfl _ _ rfl w.heap.size _ rfl hs.out _ n c xs rfl hI.out hl.out (by simp) hn (by simp) ?_; intro a' c' w' hown' hg' hc' hI')
  go_ret
  rw [← hl.out] at hc' ⊢
  exact ⟨a', c', rfl, hc', hI', (b1 _ _).grown hg' (by simp) (fun q hq => by have := (hs.out.lt q hq).1; omega)⟩
theorem cellK {W : World} {B : Nat} {t : TypeId} {g : Nat → Nat} (h : Blk W B t (hC (barH g))) {k : Nat} (hk : k < 6) : W.cell? ⟨B, k, none⟩ = some (.int .i64 (g k : Int)) := by
  obtain ⟨c0, c1, c2, c3, c4, c5, _⟩ := h.c7
  rcases (show k = 0 ∨ k = 1 ∨ k = 2 ∨ k = 3 ∨ k = 4 ∨ k = 5 by omega) with rfl | rfl | rfl | rfl | rfl | rfl <;> assumption
/-- A bar with s pieces in row k. -/
def putF (f : Nat → Nat) (k s : Nat) : Nat → Nat := fun i => if i = k then s else f i
/-- How long row k can be. -/
def mostF (f : Nat → Nat) (k C : Nat) : Nat := if k = 0 then C else f (k - 1)
def oneF (k C : Nat) (f : Nat → Nat) : List (Nat → Nat) := (List.range (mostF f k C + 1)).map (putF f k)
/-- The bars of k rows. -/
def brs : Nat → Nat → List (Nat → Nat)
  | 0, _ => [fun _ => 0]
  | k + 1, C => (brs k C).flatMap (oneF k C)
/-- A bar of at most k rows and C columns. -/
def IsK (k C : Nat) (f : Nat → Nat) : Prop := (∀ i, f i ≤ C) ∧ ∀ i, k ≤ i → f i = 0
theorem IsK.isB {k C : Nat} {f : Nat → Nat} (h : IsK k C f) (hk : k ≤ 6) (hC : C ≤ 7) : IsB f := ⟨fun i => Nat.le_trans (h.1 i) hC, fun i hi => h.2 i (by omega)⟩
theorem IsK.most {k C : Nat} {f : Nat → Nat} (h : IsK k C f) : mostF f k C ≤ C := by unfold mostF; split; omega; exact h.1 _
theorem IsK.put {k C s : Nat} {f : Nat → Nat} (h : IsK k C f) (hs : s ≤ C) : IsK (k + 1) C (putF f k s) := by
  refine ⟨fun i => ?_, fun i hi => ?_⟩
  · unfold putF; split; exact hs; exact h.1 i
  · unfold putF; rw [if_neg (by omega)]; exact h.2 i (by omega)
theorem brs_isK : ∀ (k C : Nat) (f : Nat → Nat), f ∈ brs k C → IsK k C f
  | 0, C, f, h => by
    rw [brs, List.mem_singleton] at h
    subst h
    exact ⟨fun i => Nat.zero_le _, fun i _ => rfl⟩
  | k + 1, C, f, h => by
    rw [brs, List.mem_flatMap] at h
    obtain ⟨g, hg, hf⟩ := h
    have hk := brs_isK k C g hg
    unfold oneF at hf
    obtain ⟨s, hs, rfl⟩ := List.mem_map.1 hf
    exact hk.put (by have := List.mem_range.1 hs; have := hk.most; omega)
theorem flat_len {α β : Type} (g : α → List β) (m : Nat) : ∀ l : List α, (∀ x ∈ l, (g x).length ≤ m) → (l.flatMap g).length ≤ l.length * m
  | [], _ => by simp
  | x :: l, h => by
    have h1 := h x (by simp)
    have h2 := flat_len g m l (fun y hy => h y (by simp [hy]))
    rw [List.flatMap_cons, List.length_append, List.length_cons, Nat.add_mul]
    omega
theorem brs_len : ∀ (k C : Nat), C ≤ 7 → (brs k C).length ≤ 8 ^ k
  | 0, C, _ => by simp [brs]
  | k + 1, C, h => by
    have h1 := brs_len k C h
    have h2 := flat_len (oneF k C) 8 (brs k C) (fun f hf => by
      have := (brs_isK k C f hf).most
      unfold oneF
      simp; omega)
    rw [brs, Nat.pow_succ]
    have := Nat.mul_le_mul_right 8 h1
    omega
theorem brs_lt {k C : Nat} (hk : k ≤ 6) (hC : C ≤ 7) : (brs k C).length ≤ 262144 := by
  have h1 := brs_len k C hC
  have h2 := Nat.pow_le_pow_right (n := 8) (by omega) hk
  have h3 : 8 ^ 6 = 262144 := rfl
  omega
/-- The bars made of the first j of k rows. -/
def brT (k C j : Nat) : List (Nat → Nat) := ((brs k C).take j).flatMap (oneF k C)
def brU (k C j : Nat) (f : Nat → Nat) (s : Nat) : List (Nat → Nat) := brT k C j ++ (List.range s).map (putF f k)
theorem brU_succ (k C j : Nat) (f : Nat → Nat) (s : Nat) : brU k C j f (s + 1) = brU k C j f s ++ [putF f k s] := by unfold brU; rw [List.range_succ, List.map_append, List.append_assoc]; rfl
def fAt (l : List (Nat → Nat)) (j : Nat) : Nat → Nat := l.getD j (fun _ => 0)
theorem fAt_mem {l : List (Nat → Nat)} {j : Nat} (h : j < l.length) : fAt l j ∈ l := by
  unfold fAt; rw [List.getD_eq_getElem?_getD, List.getElem?_eq_getElem h]; exact List.getElem_mem h
theorem brT_succ {k C j : Nat} (h : j < (brs k C).length) : brT k C (j + 1) = brU k C j (fAt (brs k C) j) (mostF (fAt (brs k C) j) k C + 1) := by
  unfold brU brT
  rw [List.take_succ_eq_append_getElem h, List.flatMap_append]
  have e : (brs k C)[j] = fAt (brs k C) j := by simp [fAt, h]
  rw [e]; simp [oneF]
theorem brT_all (k C : Nat) : brT k C (brs k C).length = brs (k + 1) C := by unfold brT; rw [List.take_length]; rfl
theorem brT_len (k C j : Nat) (hC : C ≤ 7) : (brT k C j).length ≤ (brs k C).length * 8 := by
  have h2 := flat_len (oneF k C) 8 ((brs k C).take j) (fun f hf => by
    have := (brs_isK k C f (List.mem_of_mem_take hf)).most
    unfold oneF
    simp; omega)
  have h3 : ((brs k C).take j).length ≤ (brs k C).length := by rw [List.length_take]; omega
  have := Nat.mul_le_mul_right 8 h3
  unfold brT
  omega
theorem put_zero {k C : Nat} {f : Nat → Nat} (h : IsK k C f) : putF f k 0 = f := by
  funext i
  unfold putF
  split
  · rename_i e; rw [e, h.2 k (Nat.le_refl _)]
  · rfl
theorem hAt_bH {l : List (Nat → Nat)} {j : Nat} (h : j < l.length) : hAt (bH l) j = barH (fAt l j) := by simp [hAt, bH, fAt, h]
end Go.Proofs.Ytdafpjapepfniaa
