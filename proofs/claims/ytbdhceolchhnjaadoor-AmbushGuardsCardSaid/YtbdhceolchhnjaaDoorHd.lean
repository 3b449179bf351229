/- Layer 4, by the program: Least. -/
import Derived.Test.YtbdhceolchhnjaaDoorHc
namespace Go.Proofs.YtbdhceolchhnjaaDoor
open Go Go.RowKit

theorem values_any (a : Option Addr) (n c : Nat) (w : World) : Calls Tryd.prog 86 #[.slice a n c] w fun e w' =>
    e = .returned (.func (.func 104) #[] #[.pointer (some ⟨w.heap.size, 0, none⟩)]) ∧ w' = w.alloc (.cells #[.slice a n c] 22) := by
  go_enter Tryd.func86, Tryd.ntmps86
  go_wp2
  go_ret
  exact ⟨rfl, rfl⟩
set_option maxRecDepth 100000 in
theorem collect_any (Bs n c : Nat) (a : Option Addr) (R : List Int) (w : World) (h : Ints w a R) (hn : R.length = n) (h100 : n ≤ 100) (hlt : ∀ b off, a = some ⟨b, off, none⟩ → 0 < n → b < w.heap.size)
    (hBs : w.cell? ⟨Bs, 0, none⟩ = some (.slice a n c)) :
    Calls Tryd.prog 102 #[.func (.func 104) #[] #[.pointer (some ⟨Bs, 0, none⟩)]] w (NewI R w) := by
  have A := Lib.hid (appendSeq_any Bs n c a R w h hn h100 hlt hBs)
  clear h hn hlt hBs
  go_enter Tryd.func102, Tryd.ntmps102
  go_wp2_with (go_at_call 107; refine A.out.mono ?_; rintro e w1 ⟨v, rfl, ho, hb⟩; replace ho := Lib.hid ho)
  go_ret
  exact ⟨v, rfl, ho.out, hb⟩
/-- Nothing was done. -/
def Idle (w : World) (e : Ending) (w' : World) : Prop := e = .returned (.tuple #[]) ∧ w = w'
/-- Sorting what is empty. -/
theorem ins0_any (a : Option Addr) (n c : Nat) (w : World) (h0 : n ≤ 0) : Calls Tryd.prog 110 #[.slice a n c, .int .i64 0, .int .i64 (n : Nat)] w (Idle w) := by
  go_enter Tryd.func110, Tryd.ntmps110
  go_wp2
  refine wp_loop_rounds 1 ?_
  rw [rounds_succ]
  go_wp2
  go_end0
  exact ⟨rfl, rfl⟩
set_option maxRecDepth 100000 in
theorem sort0_any (a : Option Addr) (n c : Nat) (w : World) (h0 : n ≤ 0) : Calls Tryd.prog 103 #[.slice a n c] w (Idle w) := by
  have I := Lib.hid (fun W => ins0_any a n c W h0)
  have P : Hid (∀ lim W, Calls Tryd.prog 108 #[.slice a n c, .int .i64 0, .int .i64 (n : Nat), .int .i64 lim] W (Idle W)) := by
    refine Lib.hid fun lim W => ?_
    go_enter Tryd.func108, Tryd.ntmps108
    go_wp2
    refine wp_loop_rounds 1 ?_
    rw [rounds_succ]
    go_wp2_with (go_at_call 110; refine (I.out _).mono ?_; rintro e w1 ⟨rfl, rfl⟩)
    go_end0
    exact ⟨rfl, rfl⟩
  have N := fun W => len_any n W (by omega)
  go_enter Tryd.func103, Tryd.ntmps103
  go_wp2_with (first
    | (go_at_call 109; refine (N _).mono ?_; rintro e w1 ⟨r, rfl, rfl⟩)
    | (go_at_call 108; refine (P.out _ _).mono ?_; rintro e w1 ⟨rfl, rfl⟩))
  go_end0
  exact ⟨rfl, rfl⟩
/-- Sorted numbers, as a new list. -/
def NewS (l : List Nat) (w : World) (e : Ending) (w' : World) : Prop := ∃ (v : Value) (S : List Nat), e = .returned v ∧ S.Perm l ∧ S.Pairwise (· ≤ ·) ∧ w'.ownsRow w.heap.size 3 1 v S.length (lI (lNi S)) ∧ Below w.heap.size w w'
def elL (l : List Nat) : List El := l.map fun (x : Nat) => (x, .int .i64 (x : Int))
theorem elL_len (l : List Nat) : (elL l).length = l.length := by simp [elL]
theorem elL_set (l : List Nat) : SetE (elL l) := by
  intro e he
  obtain ⟨x, _, rfl⟩ := List.mem_map.1 he
  rfl
theorem elL_cells (l : List Nat) : cEl (elL l) = lI (lNi l) := by simp [cEl, elL, lI, lNi]
theorem elL_back {M : List El} (h : SetE M) : cEl M = lI (lNi (M.map (·.1))) := by
  unfold cEl lI lNi
  rw [List.map_map, List.map_map]
  apply List.map_congr_left
  intro e he
  exact h e he
theorem elL_fst (l : List Nat) : (elL l).map (·.1) = l := by
  unfold elL
  rw [List.map_map]
  exact List.map_id l
set_option maxRecDepth 100000 in
set_option maxHeartbeats 2000000 in
theorem sorted_any (Bs n c : Nat) (a : Option Addr) (l : List Nat) (w : World) (h : Ints w a (lNi l)) (hn : l.length = n) (h12 : n ≤ 12) (hlt : ∀ b off, a = some ⟨b, off, none⟩ → 0 < n → b < w.heap.size)
    (hBs : w.cell? ⟨Bs, 0, none⟩ = some (.slice a n c)) :
    Calls Tryd.prog 85 #[.func (.func 104) #[] #[.pointer (some ⟨Bs, 0, none⟩)]] w (NewS l w) := by
  have C := Lib.hid (collect_any Bs n c a (lNi l) w h (by rw [lNi_len]; exact hn) (by omega) hlt hBs)
  have hn' := Lib.hid hn
  clear h hn hlt hBs
  go_enter Tryd.func85, Tryd.ntmps85
  go_wp2_with (go_at_call 102; refine C.out.mono ?_; rintro e w1 ⟨v, rfl, ho, hb⟩)
  rw [lNi_len, hn'.out] at ho
  by_cases h0 : n = 0
  · have h0' : n ≤ 0 := by omega
    obtain ⟨av, cv, rfl⟩ : ∃ a c, v = .slice a n c := by
      rcases ho.2 with ⟨rfl, h2⟩ | ⟨g, cap, cur, rfl, _⟩
      · exact ⟨none, 0, by rw [h2]⟩
      · exact ⟨_, _, rfl⟩
    have hl : Hid (l = []) := Lib.hid (List.eq_nil_of_length_eq_zero (by rw [hn'.out]; exact h0))
    replace ho := Lib.hid ho
    clear h0
    go_wp2_with (go_at_call 103; refine (sort0_any _ _ _ _ h0').mono ?_; rintro e w2 ⟨rfl, rfl⟩)
    go_ret
    exact ⟨_, l, rfl, List.Perm.refl _, by rw [hl.out]; exact List.Pairwise.nil, by rw [hn'.out]; exact ho.out, hb⟩
  · obtain ⟨g, cap, rfl⟩ := own_pos ho (by omega)
    have hg := (ho.lt g rfl).1
    rw [← elL_cells] at ho
    have SR := Lib.hid (sortS_any w.heap.size g n cap (elL l) w1 (by rw [elL_len]; exact hn'.out) h12 hg (elL_set l) ho)
    clear ho
    go_wp2_with (go_at_call 103; refine SR.out.mono ?_; rintro e w2 ⟨rfl, M, hp, hs, ho, hb2⟩; replace ho := Lib.hid ho; replace hp := Lib.hid hp; replace hs := Lib.hid hs)
    go_ret
    have hM := (elL_set l).perm hp.out
    have hlen : (M.map (·.1)).length = n := by rw [List.length_map, hp.out.length_eq, elL_len]; exact hn'.out
    refine ⟨_, M.map (·.1), rfl, ?_, ?_, ?_, hb.trans hb2⟩
    · have := hp.out.map (·.1)
      rwa [elL_fst] at this
    · rw [List.pairwise_map]
      exact sortedE_pair.1 hs.out
    · have := ho.out
      rw [elL_back hM] at this
      rw [hlen]
      exact this
end Go.Proofs.YtbdhceolchhnjaaDoor
