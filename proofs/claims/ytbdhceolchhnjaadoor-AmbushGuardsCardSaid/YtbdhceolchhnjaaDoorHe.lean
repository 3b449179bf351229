/- Layer 4, by the program: Least, of a field. -/
import Derived.Test.YtbdhceolchhnjaaDoorHd
import Derived.Test.YtbdhceolchhnjaaDoorAn
namespace Go.Proofs.YtbdhceolchhnjaaDoor
open Go Go.RowKit

theorem keepL_sub : ∀ (ys out : List Int) (x : Int), x ∈ keepL out ys → x ∈ out ∨ x ∈ ys
  | [], out, x, h => .inl h
  | y :: ys, out, x, h => by
    rw [keepL] at h
    rcases keepL_sub ys _ x h with h1 | h1
    · split at h1
      · exact .inl h1
      · rcases List.mem_append.1 h1 with h2 | h2
        · exact .inl h2
        · rw [List.mem_singleton] at h2; exact .inr (by simp [h2])
    · exact .inr (List.mem_cons_of_mem _ h1)
theorem keepL_len : ∀ (ys out : List Int), (keepL out ys).length ≤ out.length + ys.length
  | [], out => by simp [keepL]
  | y :: ys, out => by
    rw [keepL]
    have h1 := keepL_len ys (if hasOne out y.toNat = true then out else out ++ [y])
    split at h1
    · rename_i h; rw [if_pos h]; simp; omega
    · rename_i h; rw [if_neg h]; simp at h1 ⊢; omega
theorem lNi_back {R : List Int} (h : ∀ z ∈ R, 1 ≤ z) : lNi (R.map Int.toNat) = R := by
  unfold lNi
  rw [List.map_map]
  conv => rhs; rw [← List.map_id R]
  apply List.map_congr_left
  intro z hz
  have := h z hz
  show ((z.toNat : Nat) : Int) = z
  omega
theorem lNi_take (S : List Nat) (k : Nat) (h : k < S.length) : lNi (S.take (k + 1)) = lNi (S.take k) ++ [((S.getD k 0 : Nat) : Int)] := by
  rw [List.take_succ_eq_append_getElem h, lNi, List.map_append]
  simp [lNi, h]
theorem owns_baseH {w : World} {base base' : Nat} {e : TypeId} {size : Nat} {v : Value} {n : Nat} {xs : List Value} (h : w.ownsRow base e size v n xs) (hb : base' ≤ base) : w.ownsRow base' e size v n xs := by
  obtain ⟨h1, h2⟩ := h
  refine ⟨h1, ?_⟩
  rcases h2 with h2 | ⟨g, cap, cur, hv, hg, r⟩
  · exact .inl h2
  · exact .inr ⟨g, cap, cur, hv, Nat.le_trans hb hg, r⟩
set_option maxRecDepth 100000 in
set_option maxHeartbeats 4000000 in
theorem least_any (m : Nat) (a : Option Addr) (n c : Nat) (R : List Int) (w : World) (hF : FieldP m R) (h : Ints w a R) (hn : R.length = n) :
    Calls Tryd.prog 61 #[fV m a n c] w (NewI (lNi (lqTo R (pw m))) w) := by
  obtain ⟨i0, hi, hz0, hz1, hz2⟩ := info_parts infoInt'
  have G0 := Lib.hid hi
  have G1 := Lib.hid hz0
  have G2 := Lib.hid hz1
  have G3 := Lib.hid hz2
  clear hi hz0 hz1 hz2
  have hlt : ∀ W, Below w.heap.size w W → ∀ b off, a = some ⟨b, off, none⟩ → 0 < n → b < W.heap.size := fun W hW b off e h0 => by
    rcases h with h | ⟨b', off', e', hc⟩
    · omega
    · rw [e] at e'
      cases e'
      exact Nat.lt_of_lt_of_le (block_lt_of_cell (hc 0 (by omega))) hW.size
  have hb0 := lNi_back (R := R) (fun z hz => (hF.line z hz).1)
  have hll : (R.map Int.toNat).length = n := by rw [List.length_map]; exact hn
  have h12 : n ≤ 12 := by have := hF.few; omega
  have hI := Lib.hid h
  have SO := Lib.hid (fun Bs W (hW : Below w.heap.size w W) (hB : W.cell? ⟨Bs, 0, none⟩ = some (.slice a n c)) => sorted_any Bs n c a (R.map Int.toNat) W (by rw [hb0]; exact hI.out.next hW) hll h12 (hlt W hW) hB)
  have KO := Lib.hid (fun (S : List Nat) (hp : S.Perm (R.map Int.toNat)) (hs : S.Pairwise (· ≤ ·)) => (show keepL [] (lNi S) = lNi (lqTo R (pw m)) from keepL_of (N := pw m) (by
      have := hp.map fun (x : Nat) => (x : Int)
      change (lNi S).Perm (lNi (R.map Int.toNat)) at this
      rwa [hb0] at this) (by
      unfold lNi
      rw [List.pairwise_map]
      exact hs.imp (fun hxy => by omega)) (fun x hx => ⟨by have := (hF.line x hx).1; omega, (hF.line x hx).2⟩)))
  have SB := Lib.hid (fun (S : List Nat) (hp : S.Perm (R.map Int.toNat)) (x : Nat) (hx : x ∈ S) => (show x < 65536 from by
    obtain ⟨z, hz, rfl⟩ := List.mem_map.1 (hp.mem_iff.1 hx)
    have h1 := (hF.line z hz).2
    have h2 := pw_mono hF.le
    have h3 : pw 9 = 512 := rfl
    omega))
  generalize R.map Int.toNat = l0 at *
  have hll' := Lib.hid hll
  clear h hlt hb0 hll hn
  go_enter Tryd.func61, Tryd.ntmps61
  go_wp2_with (go_at_call 86; refine (values_any _ _ _ _).mono ?_; rintro e w1 ⟨rfl, rfl⟩)
  refine (SO.out _ _ (b2 _ _ _) (by go_simp)).mono ?_
  rintro e w2 ⟨v, S, rfl, hp, hs, ho, hb⟩
  dsimp only
  have hSl : S.length = n := by rw [hp.length_eq]; exact hll'.out
  rw [hSl] at ho
  obtain ⟨a9, c9, rfl, hc9, hI9⟩ := own_intsA ho (by rw [lNi_len]; exact hSl)
  have B2 := Lib.hid (nextB (b2 w _ _) hb)
  have hk0 := Lib.hid (KO.out S hp hs)
  have hsb := Lib.hid (SB.out S hp)
  clear ho hb hp hs SB KO SO
  replace hSl := Lib.hid hSl
  go_wp2
  clear hI hll'
  have hkS := Lib.hid (show lNi (S.take n) = lNi S by rw [← hSl.out, List.take_length])
  have hI9' := Lib.hid hI9
  clear hI9
  go_loopw [3, 5, 11] (fun v line i wr => ∃ k : Nat, k ≤ n ∧ i = .int .i64 k ∧ wr.ownsRow w2.heap.size 3 1 v (keepL [] (lNi (S.take k))).length (lI (keepL [] (lNi (S.take k)))) ∧ Below w.heap.size w wr ∧ Below w2.heap.size w2 wr) (fun _ _ i _ => n - (intOf i).toNat)
  case atStart => exact ⟨0, Nat.zero_le _, rfl, World.ownsRow_nil _ _ _ _, B2.out, Below.refl _ _⟩
  case round =>
    obtain ⟨k, hk, rfl, hown, B0, C0⟩ := hrel
    by_cases hlt : k < n
    · have hkS1 : k < S.length := by rw [hSl.out]; exact hlt
      have hki : (k : Int) < (n : Int) := by omega
      obtain ⟨b, off, rfl, hc⟩ := ints_at (hI9'.out.next C0) (by rw [lNi_len]; omega)
      have x0 := hc k (by rw [lNi_len]; omega)
      rw [lNi_nth hkS1] at x0
      have hst := Lib.hid (show keepL [] (lNi (S.take (k + 1))) = if hasOne (keepL [] (lNi (S.take k))) (S.getD k 0) then keepL [] (lNi (S.take k)) else keepL [] (lNi (S.take k)) ++ [((S.getD k 0 : Nat) : Int)] by
        rw [lNi_take S k hkS1, keepL_snoc]; rfl)
      have hy : S.getD k 0 < 65536 := hsb.out _ (by rw [List.getD_eq_getElem?_getD, List.getElem?_eq_getElem hkS1]; exact List.getElem_mem hkS1)
      have hle : (keepL [] (lNi (S.take k))).length ≤ 12 := by
        have h1 := keepL_len (lNi (S.take k)) []
        have h2 := List.length_take_le k S
        rw [lNi_len] at h1
        simp at h1
        omega
      have hset : Sets (keepL [] (lNi (S.take k))) := fun x hx => by
        rcases keepL_sub _ _ x hx with h1 | h1
        · cases h1
        · obtain ⟨y, hy, rfl⟩ := List.mem_map.1 h1
          have := hsb.out y (List.mem_of_mem_take hy)
          omega
      obtain ⟨av, cv, rfl, hcv, hIv⟩ := own_intsA hown rfl
      generalize S.getD k 0 = y at *
      generalize hKL : keepL [] (lNi (S.take k)) = L at *
      have CO := Lib.hid (contains_any av L.length cv L y wr hIv rfl (by omega) hy hset)
      clear hKL hIv hset hc
      generalize hq : L.length = q at *
      replace hq := Lib.hid hq
      cases hb : hasOne L y
      · rw [hb] at CO hst
        have hst2 := Lib.hid (show keepL [] (lNi (S.take (k + 1))) = L ++ [(y : Int)] from hst.out)
        clear hst hb
        have hs2 := Lib.hid (show lI L ++ [.int .i64 (y : Int)] = lI (L ++ [(y : Int)]) by simp [lI])
        have hsz := B0.size
        go_wp2_with (first
          | (go_at_call 74; refine CO.out.mono ?_; rintro e w3 ⟨rfl, hb3⟩; have hown3 := owns_next hown hb3; have B3 := nextB B0 hb3; have C3 := nextB C0 hb3; have hsz3 := B3.size; have hsz4 := C3.size; clear hown B0 C0)
          | (at_builtin; refine wpList_append_own _ rfl _ _ 22 rfl w2.heap.size 3 i0 (.int .i64 0) 1 8 Tryd.underlying22 G0.out G1.out G2.out G3.out rfl (by decide) _ _ _ rfl (hown3.alloc _) ⟨_, 0, none⟩ 1 1 [.int .i64 (y : Int)] rfl rfl (cell_one_new _ _ _) (by simp [Value.oneCell']) (by unfold maxLen; omega) (by omega) (by simp; omega) ?_; intro v' w4 hown4 hgrow _; rw [hs2.out] at hown4))
        have hql := hown3.lt
        have hw2 := B2.out.size
        have B4 := (B3.alloc hsz3 (.cells #[.int .i64 (y : Int)] 3)).grown hgrow (by simp; omega) (fun q hq => Nat.le_trans hw2 (hql q hq).1)
        have C4 : Below w2.heap.size w2 w4 := (C3.alloc C3.size (.cells #[.int .i64 (y : Int)] 3)).grown hgrow (by have := C3.size; simp; omega) (fun q hq => (hql q hq).1)
        go_roundw
        case rel => exact ⟨k + 1, by omega, by go_num, by rw [hst2.out, List.length_append, hq.out]; exact hown4, B4, C4⟩
        case measure => simp [intOf]; omega
      · rw [hb] at CO hst
        have hst2 := Lib.hid (show keepL [] (lNi (S.take (k + 1))) = L from hst.out)
        clear hst hb
        replace hown := Lib.hid hown
        go_wp2_with (go_at_call 74; refine CO.out.mono ?_; rintro e w3 ⟨rfl, hb3⟩)
        go_roundw
        case rel => exact ⟨k + 1, by omega, by go_num, by rw [hst2.out, hq.out]; exact owns_next hown.out hb3, nextB B0 hb3, nextB C0 hb3⟩
        case measure => simp [intOf]; omega
    · obtain rfl : k = n := by omega
      rw [hkS.out] at hown
      replace hown := Lib.hid hown
      go_wp2
      go_ret
      exact ⟨_, rfl, by rw [← hk0.out]; exact owns_baseH hown.out B2.out.size, B0⟩
end Go.Proofs.YtbdhceolchhnjaaDoor
