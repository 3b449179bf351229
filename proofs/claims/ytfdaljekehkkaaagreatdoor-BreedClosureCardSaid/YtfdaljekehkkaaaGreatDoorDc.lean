/- Layer 5, by the program: the parts of a set that triples join. -/
import Derived.Test.YtfdaljekehkkaaaGreatDoorDb
import Derived.Test.YtfdaljekehkkaaaGreatDoorSb
namespace Go.Proofs.YtfdaljekehkkaaaGreatDoor
open Go Go.RowKit

theorem owns_base {w : World} {base base' n size : Nat} {e : TypeId} {v : Value} {xs : List Value} (h : w.ownsRow base' e size v n xs) (hb : base ≤ base') : w.ownsRow base e size v n xs := by
  obtain ⟨h1, h2⟩ := h
  refine ⟨h1, ?_⟩
  rcases h2 with h2 | ⟨g, cap, cur, hv, hg, r⟩
  · exact .inl h2
  · exact .inr ⟨g, cap, cur, hv, Nat.le_trans hb hg, r⟩
/-- Sets as cells. -/
def lN (ps : List Nat) : List Value := ps.map fun (p : Nat) => Value.int .i64 (p : Int)
theorem lN_length (ps : List Nat) : (lN ps).length = ps.length := by simp [lN]
theorem lN_snoc (ps : List Nat) (p : Nat) : lN (ps ++ [p]) = lN ps ++ [.int .i64 (p : Int)] := by simp [lN]
theorem lN_get {ps : List Nat} {i : Nat} (h : i < ps.length) : (lN ps)[i]? = some (.int .i64 ((ps.getD i 0 : Nat) : Int)) := by simp [lN, h]
/-- The slice at a holds the sets ps. -/
def Sets (w : World) (a : Option Addr) (ps : List Nat) : Prop :=
  ps.length = 0 ∨ ∃ b off, a = some ⟨b, off, none⟩ ∧ ∀ i, i < ps.length → w.cell? ⟨b, off + i, none⟩ = some (.int .i64 ((ps.getD i 0 : Nat) : Int))
theorem Sets.next {w w' : World} {a : Option Addr} {ps : List Nat} (h : Sets w a ps) (hb : Below w.heap.size w w') : Sets w' a ps := by
  rcases h with h | ⟨b, off, e, hc⟩
  · exact .inl h
  · exact .inr ⟨b, off, e, fun i hi => cellB hb (hc i hi)⟩
theorem sets_at {w : World} {a : Option Addr} {ps : List Nat} (h : Sets w a ps) (hn : 0 < ps.length) : ∃ b off, a = some ⟨b, off, none⟩ ∧ ∀ i, i < ps.length → w.cell? ⟨b, off + i, none⟩ = some (.int .i64 ((ps.getD i 0 : Nat) : Int)) := by
  rcases h with h | h
  · omega
  · exact h
theorem own_sets {w : World} {base n : Nat} {e : TypeId} {v : Value} {ps : List Nat} (h : w.ownsRow base e 1 v n (lN ps)) (hn : ps.length = n) : ∃ a c, v = .slice a n c ∧ n ≤ c ∧ Sets w a ps := by
  have h0 := h
  rcases h.2 with ⟨rfl, h2⟩ | ⟨g, cap, cur, rfl, hg, hh, hcap, r⟩
  · exact ⟨none, 0, by rw [h2], by omega, .inl (by omega)⟩
  · refine ⟨some ⟨g, 0, none⟩, cap, rfl, hcap, .inr ⟨g, 0, rfl, fun i hi => ?_⟩⟩
    rw [Nat.zero_add, h0.cellAt i (by omega), lN_get (by omega)]
theorem infoSet : (Tryz.prog.info? 60).map (fun i => (i.zero, i.size, i.bytes)) = some (some (.int .i64 0), 1, 8) := by kernel_rfl
theorem setWith2 (W : World) (b c x y : Nat) (hB : Blk W b 3 #[.int .i64 (x : Int), .int .i64 (y : Int)]) (hx : x < 9) (hy : y < 9) :
    Calls Tryz.prog 38 #[.slice (some ⟨b, 0, none⟩) 2 c] W (Only (.int .i64 ((pw x ||| pw y : Nat) : Int)) W) := by
  have := setWith_any b 0 c [x, y] W (by simp [hx, hy]) (by simp) (fun i hi => by
    rw [Nat.zero_add]
    match i, hi with
    | 0, _ => exact hB.c 0 rfl
    | 1, _ => exact hB.c 1 rfl)
  simpa [setW] using this
theorem setWith1 (W : World) (b c x : Nat) (hB : Blk W b 3 #[.int .i64 (x : Int)]) (hx : x < 9) :
    Calls Tryz.prog 38 #[.slice (some ⟨b, 0, none⟩) 1 c] W (Only (.int .i64 ((pw x : Nat) : Int)) W) := by
  have := setWith_any b 0 c [x] W (by simp [hx]) (by simp) (fun i hi => by
    rw [Nat.zero_add]
    match i, hi with
    | 0, _ => exact hB.c 0 rfl)
  simpa [setW] using this
theorem setWith3 (W : World) (b c x y z : Nat) (hB : Blk W b 3 #[.int .i64 (x : Int), .int .i64 (y : Int), .int .i64 (z : Int)]) (hx : x < 9) (hy : y < 9) (hz : z < 9) :
    Calls Tryz.prog 38 #[.slice (some ⟨b, 0, none⟩) 3 c] W (Only (.int .i64 ((pw x ||| pw y ||| pw z : Nat) : Int)) W) := by
  have := setWith_any b 0 c [x, y, z] W (by simp [hx, hy, hz]) (by simp) (fun i hi => by
    rw [Nat.zero_add]
    match i, hi with
    | 0, _ => exact hB.c 0 rfl
    | 1, _ => exact hB.c 1 rfl
    | 2, _ => exact hB.c 2 rfl)
  simpa [setW] using this
/-- New sets were returned. -/
def NewS (ps : List Nat) (w : World) (e : Ending) (w' : World) : Prop := ∃ v, e = .returned v ∧ w'.ownsRow w.heap.size 60 1 v ps.length (lN ps) ∧ Below w.heap.size w w'
theorem orL_lt {ps : List Nat} (h : ∀ p ∈ ps, p < 512) : orL ps < 512 := by
  have : ∀ (ps : List Nat) (s : Nat), s < 2 ^ 9 → (∀ p ∈ ps, p < 512) → ps.foldl (· ||| ·) s < 2 ^ 9 := by
    intro ps
    induction ps with
    | nil => intro s hs _; exact hs
    | cons b bs ih => intro s hs hb; exact ih _ (Nat.or_lt_two_pow hs (hb b (by simp))) fun c hc => hb c (by simp [hc])
  exact this ps 0 (by decide) h
theorem getD_mem {ps : List Nat} {k : Nat} (h : k < ps.length) : ps.getD k 0 ∈ ps := by
  rw [List.getD_eq_getElem?_getD, List.getElem?_eq_getElem h]; exact List.getElem_mem h
set_option maxRecDepth 100000 in
set_option maxHeartbeats 4000000 in
theorem united_any (a : Option Addr) (n c q : Nat) (ps : List Nat) (w : World) (h : Sets w a ps) (hn : ps.length = n) (hn9 : n ≤ 1000) (hq : q < 512) (hps : ∀ p ∈ ps, p < 512) :
    Calls Tryz.prog 50 #[.slice a n c, .int .i64 (q : Nat)] w (NewS (unitP ps q) w) := by
  obtain ⟨i0, hi, hz0, hz1, hz2⟩ := info_parts infoSet
  have G0 := Lib.hid hi
  have G1 := Lib.hid hz0
  have G2 := Lib.hid hz1
  have G3 := Lib.hid hz2
  clear hi hz0 hz1 hz2
  have hS := Lib.hid h
  have hnn := Lib.hid hn
  have M := Lib.hid (fun p (hp : p < 512) W => meets_any p q hp hq W)
  have FA : ∀ k, (ps.take k).filter (fun p => p &&& q == 0) = (ps.take k).filter (fun p => p &&& q == 0) := fun _ => rfl
  clear FA h hn
  go_enter Tryz.func50, Tryz.ntmps50
  go_wp2
  go_loopw [5, 6, 11] (fun o v i wr => ∃ k : Nat, k ≤ n ∧ i = .int .i64 k ∧ o = .int .i64 ((orL ((ps.take k).filter fun p => !(p &&& q == 0)) : Nat) : Int) ∧ wr.ownsRow w.heap.size 60 1 v ((ps.take k).filter fun p => p &&& q == 0).length (lN ((ps.take k).filter fun p => p &&& q == 0)) ∧ Below w.heap.size w wr) (fun _ _ i _ => n - (intOf i).toNat)
  case atStart => exact ⟨0, Nat.zero_le _, rfl, rfl, World.ownsRow_nil _ _ _ _, Below.refl _ _⟩
  case round =>
    obtain ⟨k, hk, rfl, rfl, hown, B0⟩ := hrel
    have hol : orL ((ps.take k).filter fun p => !(p &&& q == 0)) < 512 := orL_lt fun p hp => hps p (List.mem_of_mem_take (List.mem_filter.1 hp).1)
    have hfl : ((ps.take k).filter fun p => p &&& q == 0).length ≤ k := by
      have h1 := List.length_filter_le (fun p => p &&& q == 0) (ps.take k)
      have h2 := List.length_take_le k ps
      omega
    by_cases hlt : k < n
    · have hkl : k < ps.length := by rw [hnn.out]; exact hlt
      obtain ⟨b, off, rfl, hc⟩ := sets_at (hS.out.next B0) (by omega)
      have x0 := hc k hkl
      have hp9 : ps.getD k 0 < 512 := hps _ (getD_mem hkl)
      have hki : (k : Int) < (n : Int) := by omega
      have T := take_snocN ps k hkl
      have ho := i64_or_nat (orL ((ps.take k).filter fun p => !(p &&& q == 0))) (ps.getD k 0) (by omega) (by omega)
      have C := M.out _ hp9
      clear hc
      cases hm : ps.getD k 0 &&& q == 0
      · have E1 := Lib.hid (show (ps.take (k + 1)).filter (fun p => p &&& q == 0) = (ps.take k).filter (fun p => p &&& q == 0) by rw [T, List.filter_append]; simp only [List.filter_cons, hm, Bool.false_eq_true, if_false, List.filter_nil, List.append_nil])
        have E2 := Lib.hid (show orL ((ps.take (k + 1)).filter (fun p => !(p &&& q == 0))) = orL ((ps.take k).filter (fun p => !(p &&& q == 0))) ||| ps.getD k 0 by rw [T, List.filter_append]; simp only [List.filter_cons, hm, Bool.not_false, if_true, List.filter_nil]; exact orL_snoc _ _)
        rw [hm] at C
        replace C := Lib.hid C
        replace T := Lib.hid T
        replace hm := Lib.hid hm
        generalize ps.getD k 0 = p0 at *
        generalize orL ((ps.take k).filter fun p => !(p &&& q == 0)) = o0 at *
        generalize (ps.take k).filter (fun p => p &&& q == 0) = f0 at *
        go_wp2_with (go_at_call 53; refine (C.out _).mono ?_; rintro e w2 ⟨rfl, rfl⟩)
        go_roundw
        case rel => exact ⟨k + 1, by omega, by go_num, by rw [E2.out], by rw [E1.out]; exact hown, B0⟩
        case measure => simp [intOf]; omega
      · have E1 := Lib.hid (show (ps.take (k + 1)).filter (fun p => p &&& q == 0) = (ps.take k).filter (fun p => p &&& q == 0) ++ [ps.getD k 0] by rw [T, List.filter_append]; simp only [List.filter_cons, hm, if_true, List.filter_nil])
        have E2 := Lib.hid (show orL ((ps.take (k + 1)).filter (fun p => !(p &&& q == 0))) = orL ((ps.take k).filter (fun p => !(p &&& q == 0))) by rw [T, List.filter_append]; simp only [List.filter_cons, hm, Bool.not_true, Bool.false_eq_true, if_false, List.filter_nil, List.append_nil])
        rw [hm] at C
        replace C := Lib.hid C
        replace T := Lib.hid T
        replace hm := Lib.hid hm
        clear ho
        generalize ps.getD k 0 = p0 at *
        generalize orL ((ps.take k).filter fun p => !(p &&& q == 0)) = o0 at *
        generalize (ps.take k).filter (fun p => p &&& q == 0) = f0 at *
        go_wp2_with (first
          | (go_at_call 53; refine (C.out _).mono ?_; rintro e w2 ⟨rfl, rfl⟩)
          | (at_builtin; refine wpList_append_own _ rfl _ _ 64 rfl w.heap.size 60 i0 (.int .i64 0) 1 8 Tryz.underlying64 G0.out G1.out G2.out G3.out rfl (by decide) _ _ _ rfl (hown.alloc _) ⟨_, 0, none⟩ 1 1 [.int .i64 (p0 : Int)] rfl rfl (cell_one_new _ _ _) (by simp [Value.oneCell']) (by unfold maxLen; omega) (by omega) (by have := B0.size; simp; omega) ?_; intro v' w2 hown2 hgrow _))
        have hs := B0.size
        have B2 := (B0.alloc hs _).grown hgrow (by simp; omega) (fun q hq => by have := (hown.lt q hq).1; omega)
        go_roundw
        case rel => exact ⟨k + 1, by omega, by go_num, by rw [E2.out], by rw [E1.out, List.length_append, lN_snoc]; exact hown2, B2⟩
        case measure => simp [intOf]; omega
    · obtain rfl : k = n := by omega
      have e : ps.take k = ps := by rw [← hnn.out, List.take_length]
      rw [e] at hown hol hfl ⊢
      have E : Hid (unitP ps q = (ps.filter fun p => p &&& q == 0) ++ [orL (ps.filter fun p => !(p &&& q == 0))]) := Lib.hid rfl
      replace e := Lib.hid e
      generalize unitP ps q = u0 at *
      generalize orL (ps.filter fun p => !(p &&& q == 0)) = o0 at *
      generalize ps.filter (fun p => p &&& q == 0) = f0 at *
      go_wp2_with (at_builtin; refine wpList_append_own _ rfl _ _ 64 rfl w.heap.size 60 i0 (.int .i64 0) 1 8 Tryz.underlying64 G0.out G1.out G2.out G3.out rfl (by decide) _ _ _ rfl (hown.alloc _) ⟨_, 0, none⟩ 1 1 [.int .i64 (o0 : Int)] rfl rfl (cell_one_new _ _ _) (by simp [Value.oneCell']) (by unfold maxLen; omega) (by omega) (by have := B0.size; simp; omega) ?_; intro v' w2 hown2 hgrow _)
      have hs := B0.size
      have B2 := (B0.alloc hs _).grown hgrow (by simp; omega) (fun q hq => by have := (hown.lt q hq).1; omega)
      replace hown2 := Lib.hid hown2
      go_ret
      exact ⟨_, rfl, by rw [E.out, List.length_append, lN_snoc]; exact hown2.out, B2⟩
end Go.Proofs.YtfdaljekehkkaaaGreatDoor
