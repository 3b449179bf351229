/- Layer 5, by the specification: Closure. -/
import Derived.Test.YtfdaljekehkkaaaGreatDoorQg
import Derived.Test.YtfdaljekehkkaaaGreatDoorPh
import Derived.Test.YtfdaljekehkkaaaGreatDoorAr
namespace Go.Proofs.YtfdaljekehkkaaaGreatDoor
open Go Go.RowKit

/-- Is the triple in the closure: neither of the other two can be added? -/
def inClo (m : Nat) (L : List T3) (t : T3) : Bool := !(bldO (bldT m (L ++ [oth0 t]))).2 && !(bldO (bldT m (L ++ [oth1 t]))).2
/-- What Closure returns. -/
def cloE (n : Int) (L : List T3) : List T3 × Int := if (bldE n L).2 = 0 then ((allL n.toNat).filter (inClo n.toNat L), 0) else ([], (bldE n L).2)
theorem rowC_tri {n a b : Nat} (hn : n ≤ 8) (ha : a < b) (hb : b < n) : ∀ k, k ≤ n → ∀ t ∈ rowC a b k, isT n t = true := by
  intro k
  induction k with
  | zero => intro _ t ht; cases ht
  | succ k ih =>
    intro hk t ht
    rw [rowC] at ht
    split at ht
    · rename_i h
      rcases List.mem_append.1 ht with h2 | h2
      · exact ih (by omega) t h2
      · rw [List.mem_singleton] at h2
        subst h2
        unfold isT beaB
        simp only [Bool.and_eq_true, decide_eq_true_eq, bne_iff_ne]
        omega
    · exact ih (by omega) t ht
theorem rowB_tri {n a : Nat} (hn : n ≤ 8) : ∀ k, k ≤ n → ∀ t ∈ rowB n a k, isT n t = true := by
  intro k
  induction k with
  | zero => intro _ t ht; cases ht
  | succ k ih =>
    intro hk t ht
    rw [rowB] at ht
    split at ht
    · rename_i h
      rcases List.mem_append.1 ht with h2 | h2
      · exact ih (by omega) t h2
      · exact rowC_tri hn h (by omega) n (Nat.le_refl _) t h2
    · exact ih (by omega) t ht
theorem all_tri {n : Nat} (hn : n ≤ 8) : ∀ t ∈ allL n, isT n t = true := by
  have : ∀ k, k ≤ n → ∀ t ∈ rowA n k, isT n t = true := by
    intro k
    induction k with
    | zero => intro _ t ht; cases ht
    | succ k ih =>
      intro hk t ht
      rw [rowA] at ht
      rcases List.mem_append.1 ht with h2 | h2
      · exact ih (by omega) t h2
      · exact rowB_tri hn n (Nat.le_refl _) t h2
  exact this n (Nat.le_refl _)
theorem oth_tri {n : Nat} {t : T3} (h : isT n t = true) : isT n (oth0 t) = true ∧ isT n (oth1 t) = true := by
  obtain ⟨a, b, c⟩ := t
  unfold isT beaB oth0 oth1 at *
  simp only [Bool.and_eq_true, decide_eq_true_eq, bne_iff_ne] at *
  constructor <;> omega
theorem filter_snoc {p : T3 → Bool} {L : List T3} {k : Nat} (h : k < L.length) : (L.take (k + 1)).filter p = (L.take k).filter p ++ (if p (tth L k) then [tth L k] else []) := by
  rw [List.take_succ_eq_append_getElem h, List.filter_append, tth_get h]
  congr 1
  cases hp : p L[k] <;> simp [hp]
abbrev c6 (t u : T3) : Array Value := #[.int .i64 t.1, .int .i64 t.2.1, .int .i64 t.2.2, .int .i64 u.1, .int .i64 u.2.1, .int .i64 u.2.2]
def CloR (r : List T3 × Int) (w : World) (e : Ending) (w' : World) : Prop :=
  ∃ v, e = .returned (.tuple #[v, .int .i64 r.2]) ∧ w'.ownsRow w.heap.size 36 3 v r.1.length (cT r.1) ∧ Below w.heap.size w w'
set_option maxRecDepth 100000 in
set_option maxHeartbeats 8000000 in
theorem refClosure_any (n : Int) (a : Option Addr) (l c : Nat) (L : List T3) (w : World) (h : Trips w a L) (hl : L.length = l) (hl9 : l ≤ 100) (hnil : a = none → c = 0) :
    Calls Tryz.prog 8 #[.int .i64 n, .slice a l c] w (CloR (cloE n L) w) := by
  have B := refBuildTop_any n a l c L w h hl (by omega)
  unfold cloE
  by_cases he : (bldE n L).2 = 0
  · rw [if_pos he]
    have hm0 : memE n L = 0 := by
      refine Classical.byContradiction fun hne => ?_
      rw [bldE_bad hne] at he
      exact hne he
    obtain ⟨m, rfl, h1, h8, hok, _⟩ := memE_ok hm0
    rw [Int.toNat_natCast]
    rw [he] at B
    obtain ⟨p, q300, _⟩ := full_bd h1 h8
    have hp8 := pw_mono (k := 8) h8
    have h256 : pw 8 = 256 := rfl
    have hpp := pw_pos m
    have sh := wrap_shl (k := m) (by omega)
    have sb : IntKind.i64.wrap (((pw m : Nat) : Int) - 1) = ((pw m - 1 : Nat) : Int) := by rw [IntWalk.i64_in _ (by omega)]; omega
    have AL := Lib.hid (fun W => refAll_any m h8 W)
    have OT := Lib.hid (fun t W => refOthers_any t W)
    have WI := Lib.hid (fun x W hW => refWith_any a l c L x W hW hl (by omega) hnil)
    have BU := Lib.hid (fun x (hx : isT m x = true) W a2 c2 (hW : Trips W a2 (L ++ [x])) => show Calls Tryz.prog 25 #[.slice a2 (l + 1) c2, .int .i64 ((pw m - 1 : Nat) : Int)] W (Ret (.tuple #[strV (bldO (bldT m (L ++ [x]))).1, .bool (bldO (bldT m (L ++ [x]))).2]) W) from
      refBuild_any a2 (l + 1) c2 (L ++ [x]) (by rw [List.length_append, List.length_singleton, hl]) (by omega) (fun t ht => by
        rcases List.mem_append.1 ht with h2 | h2
        · exact tri8_of (hok t h2) h8
        · rw [List.mem_singleton] at h2; subst h2; exact tri8_of hx h8) 300 (pw m - 1) W q300 p (by omega) hW)
    have hI := Lib.hid (fun W (hW : Below w.heap.size w W) => h.next hW)
    have TR := Lib.hid (all_tri h8)
    have LE := Lib.hid (rowA_len h8 m)
    change Hid ((allL m).length ≤ m * 64) at LE
    obtain ⟨T, hT⟩ : ∃ T, Hid (allL m = T) := ⟨_, Lib.hid rfl⟩
    rw [hT.out] at AL TR LE
    rw [hT.out]
    obtain ⟨i0, hi, hz0, hz1, hz2⟩ := info_parts infoTrip
    have G0 := Lib.hid hi
    have G1 := Lib.hid hz0
    have G2 := Lib.hid hz1
    have G3 := Lib.hid hz2
    replace B := Lib.hid B
    have hlL := Lib.hid hl
    clear hi hz0 hz1 hz2 h hok hl he hm0
    generalize (bldE m L).1 = s1 at *
    generalize pw m - 1 = f at *
    go_enter Tryz.func8, Tryz.ntmps8
    go_wp2_with (first
      | (go_at_call 24; (with_reducible refine B.out.mono ?_); rintro eq wq ⟨rfl, hbq⟩)
      | (go_at_call 13; (with_reducible refine (AL.out _).mono ?_); rintro eq wA ⟨v9, rfl, ho9, hb9⟩; obtain ⟨a9, c9, rfl, hc9, hT9, _⟩ := own_tripsA ho9 rfl; clear ho9))
    have BA := Lib.hid (nextB hbq hb9)
    have ZA := Lib.hid (fun W (hW : Below wA.heap.size wA W) => hT9.next hW)
    clear hT9 hb9 hbq
    obtain ⟨q, hq⟩ : ∃ q, Hid (T.length = q) := ⟨_, Lib.hid rfl⟩
    rw [hq.out]
    rw [hq.out] at LE
    go_loopw [8, 10] (fun v i wr => ∃ k : Nat, k ≤ q ∧ i = .int .i64 k ∧ wr.ownsRow wA.heap.size 36 3 v ((T.take k).filter (inClo m L)).length (cT ((T.take k).filter (inClo m L))) ∧ Below wA.heap.size wA wr) (fun _ i _ => q - (intOf i).toNat)
    case atStart => exact ⟨0, Nat.zero_le _, rfl, World.ownsRow_nil _ _ _ _, Below.refl _ _⟩
    case round =>
      obtain ⟨k, hk, rfl, hown, B0⟩ := hrel
      by_cases hlt : k < q
      · have hkl : k < T.length := by rw [hq.out]; exact hlt
        have hki : (k : Int) < (q : Int) := by omega
        obtain ⟨b, off, rfl, hc⟩ := trips_at (ZA.out _ B0) (by omega)
        obtain ⟨z0, z1, z2⟩ := hc k hkl
        have htri := TR.out _ (tth_mem hkl)
        obtain ⟨o0, o1⟩ := oth_tri htri
        have eF := Lib.hid (filter_snoc (p := inClo m L) hkl)
        clear hc
        obtain ⟨t, ht⟩ : ∃ t, Hid (tth T k = t) := ⟨_, Lib.hid rfl⟩
        rw [ht.out] at z0 z1 z2 htri o0 o1 eF
        replace o0 := Lib.hid o0
        replace o1 := Lib.hid o1
        go_wp2_with (go_at_call 14; (with_reducible refine (OT.out _ _).mono ?_); rintro eq wq ⟨rfl, hbq⟩)
        have hO := Blk.new wq 38 (c6 (oth0 t) (oth1 t))
        have BW0 := Lib.hid (BA.out.trans ((B0.trans (hbq.mono B0.size)).mono BA.out.size |>.alloc (by have := BA.out.size; have := B0.size; have := hbq.size; omega) (.cells (c6 (oth0 t) (oth1 t)) 38)))
        have BA0 := Lib.hid ((B0.trans (hbq.mono B0.size)).alloc (by have := B0.size; have := hbq.size; omega) (.cells (c6 (oth0 t) (oth1 t)) 38))
        have hown0 := Lib.hid ((owns_next hown hbq).alloc (.cells (c6 (oth0 t) (oth1 t)) 38))
        obtain ⟨B0', B1'⟩ := (⟨BU.out _ o0.out, BU.out _ o1.out⟩ : _ ∧ _)
        have ei : Hid (inClo m L t = (!(bldO (bldT m (L ++ [oth0 t]))).2 && !(bldO (bldT m (L ++ [oth1 t]))).2)) := Lib.hid rfl
        generalize (bldO (bldT m (L ++ [oth0 t]))).1 = r0 at *
        generalize (bldO (bldT m (L ++ [oth0 t]))).2 = e0 at *
        generalize (bldO (bldT m (L ++ [oth1 t]))).1 = r1 at *
        generalize (bldO (bldT m (L ++ [oth1 t]))).2 = e1 at *
        replace B0' := Lib.hid B0'
        replace B1' := Lib.hid B1'
        clear hown hbq B0 z0 z1 z2 BU
        change Code.wp _ _ _ _ (wq.alloc (.cells (c6 (oth0 t) (oth1 t)) 38))
        generalize wq.alloc (.cells (c6 (oth0 t) (oth1 t)) 38) = W0 at *
        generalize wq.heap.size = g at *
        have PU0 := Lib.hid (fun W (hW : Below W0.heap.size W0 W) => show W.cell? ⟨g, 0, none⟩ = some (.int .i64 (oth0 t).1) ∧ W.cell? ⟨g, 1, none⟩ = some (.int .i64 (oth0 t).2.1) ∧ W.cell? ⟨g, 2, none⟩ = some (.int .i64 (oth0 t).2.2) from ⟨(hO.ext hW).c 0 rfl, (hO.ext hW).c 1 rfl, (hO.ext hW).c 2 rfl⟩)
        have PU1 := Lib.hid (fun W (hW : Below W0.heap.size W0 W) => show W.cell? ⟨g, 3, none⟩ = some (.int .i64 (oth1 t).1) ∧ W.cell? ⟨g, 4, none⟩ = some (.int .i64 (oth1 t).2.1) ∧ W.cell? ⟨g, 5, none⟩ = some (.int .i64 (oth1 t).2.2) from ⟨(hO.ext hW).c 3 rfl, (hO.ext hW).c 4 rfl, (hO.ext hW).c 5 rfl⟩)
        clear hO
        refine wp_region_S (fun W => Below W0.heap.size W0 W) (by kernel_rfl) ?_
        show wpAnyS _ _ _ _ _ (12 + 1) _ _ _
        have hS : Below W0.heap.size W0 W0.drew := (Below.refl _ _).drew
        generalize W0.drew = u0 at *
        refine anyS_pure 0 (.slice a l c) rfl (by kernel_rfl) (by kernel_rfl) (by kernel_rfl) (fun _ _ _ h => h) (by rfl) (fun W hW => by go_simp) hS ?_
        refine anyS_pure 1 (.pointer (some ⟨g, 0, none⟩)) rfl (by kernel_rfl) (by kernel_rfl) (by kernel_rfl) (fun _ _ _ h => h) (by rfl) (fun W hW => by go_simp) hS ?_
        refine anyS_pure 2 (t3V (oth0 t)) rfl (by kernel_rfl) (by kernel_rfl) (by kernel_rfl) (fun _ _ _ h => h) (by rfl) (fun W hW => by obtain ⟨y0, y1, y2⟩ := PU0.out W hW; go_simp) hS ?_
        refine anyS_pure 4 (.int .i64 (m : Int)) rfl (by kernel_rfl) (by kernel_rfl) (by kernel_rfl) (fun _ _ _ h => h) (by rfl) (fun W hW => by go_simp) hS ?_
        refine anyS_pure 5 (.int .i64 ((pw m : Nat) : Int)) rfl (by kernel_rfl) (by kernel_rfl) (by kernel_rfl) (fun _ _ _ h => h) (by rfl) (fun W hW => by go_simp) hS ?_
        refine anyS_pure 6 (.int .i64 (f : Int)) rfl (by kernel_rfl) (by kernel_rfl) (by kernel_rfl) (fun _ _ _ h => h) (by rfl) (fun W hW => by go_simp) hS ?_
        try simp only [Act.put, List.setIfInBounds_toArray, List.set_cons_zero, List.set_cons_succ]
        refine anyS_one 3 (by kernel_rfl) rfl ?_
        go_wp2_with (go_at_call 26; (with_reducible refine (WI.out _ _ (hI.out _ (nextB BW0.out hS))).mono ?_); rintro eq u1 ⟨vv, rfl, how, hbw⟩)
        show _ ∧ _
        replace hS := nextB hS hbw
        rw [List.length_append, List.length_singleton, hlL.out] at how
        obtain ⟨aw, cw, rfl, _, hTw, _⟩ := own_tripsA how (by rw [List.length_append, List.length_singleton, hlL.out])
        clear how hbw
        refine ⟨hS, ?_⟩
        try simp only [Act.put, List.setIfInBounds_toArray, List.set_cons_zero, List.set_cons_succ]
        refine anyS_one 7 (by kernel_rfl) rfl ?_
        go_wp2_with (go_at_call 25; (with_reducible refine (B0'.out _ _ _ hTw).mono ?_); rintro eq u2 ⟨rfl, hbw⟩)
        show _ ∧ _
        replace hS := nextB hS hbw
        clear hbw hTw
        refine ⟨hS, ?_⟩
        try simp only [Act.put, List.setIfInBounds_toArray, List.set_cons_zero, List.set_cons_succ]
        refine anyS_pure 8 (.tuple #[strV r0, .bool e0]) rfl (by kernel_rfl) (by kernel_rfl) (by kernel_rfl) (fun _ _ _ h => h) (by rfl) (fun W hW => by go_simp) hS ?_
        try simp only [Act.put, List.setIfInBounds_toArray, List.set_cons_zero, List.set_cons_succ]
        refine anyS_pure 9 (strV r0) rfl (by kernel_rfl) (by kernel_rfl) (by kernel_rfl) (fun _ _ _ h => h) (by rfl) (fun W hW => by go_simp) hS ?_
        try simp only [Act.put, List.setIfInBounds_toArray, List.set_cons_zero, List.set_cons_succ]
        refine anyS_pure 10 (.bool e0) rfl (by kernel_rfl) (by kernel_rfl) (by kernel_rfl) (fun _ _ _ h => h) (by rfl) (fun W hW => by go_simp) hS ?_
        try simp only [Act.put, List.setIfInBounds_toArray, List.set_cons_zero, List.set_cons_succ]
        refine anyS_pure 11 (strV r0) rfl (by kernel_rfl) (by kernel_rfl) (by kernel_rfl) (fun _ _ _ h => h) (by rfl) (fun W hW => by go_simp) hS ?_
        try simp only [Act.put, List.setIfInBounds_toArray, List.set_cons_zero, List.set_cons_succ]
        refine anyS_one 12 (by kernel_rfl) rfl ?_
        go_wp2_with fail
        show _ ∧ _
        refine ⟨hS, ?_⟩
        try simp only [Act.put, List.setIfInBounds_toArray, List.set_cons_zero, List.set_cons_succ]
        refine anyS_end (by kernel_rfl) ?_
        go_wp2
        refine wp_region_S (fun W => Below W0.heap.size W0 W) (by kernel_rfl) ?_
        show wpAnyS _ _ _ _ _ (12 + 1) _ _ _
        replace hS := hS.drew
        generalize u2.drew = u3 at *
        refine anyS_pure 0 (.slice a l c) rfl (by kernel_rfl) (by kernel_rfl) (by kernel_rfl) (fun _ _ _ h => h) (by rfl) (fun W hW => by go_simp) hS ?_
        refine anyS_pure 1 (.pointer (some ⟨g, 3, none⟩)) rfl (by kernel_rfl) (by kernel_rfl) (by kernel_rfl) (fun _ _ _ h => h) (by rfl) (fun W hW => by go_simp) hS ?_
        refine anyS_pure 2 (t3V (oth1 t)) rfl (by kernel_rfl) (by kernel_rfl) (by kernel_rfl) (fun _ _ _ h => h) (by rfl) (fun W hW => by obtain ⟨y0, y1, y2⟩ := PU1.out W hW; go_simp) hS ?_
        refine anyS_pure 4 (.int .i64 (m : Int)) rfl (by kernel_rfl) (by kernel_rfl) (by kernel_rfl) (fun _ _ _ h => h) (by rfl) (fun W hW => by go_simp) hS ?_
        refine anyS_pure 5 (.int .i64 ((pw m : Nat) : Int)) rfl (by kernel_rfl) (by kernel_rfl) (by kernel_rfl) (fun _ _ _ h => h) (by rfl) (fun W hW => by go_simp) hS ?_
        refine anyS_pure 6 (.int .i64 (f : Int)) rfl (by kernel_rfl) (by kernel_rfl) (by kernel_rfl) (fun _ _ _ h => h) (by rfl) (fun W hW => by go_simp) hS ?_
        try simp only [Act.put, List.setIfInBounds_toArray, List.set_cons_zero, List.set_cons_succ]
        refine anyS_one 3 (by kernel_rfl) rfl ?_
        go_wp2_with (go_at_call 26; (with_reducible refine (WI.out _ _ (hI.out _ (nextB BW0.out hS))).mono ?_); rintro eq u4 ⟨vv, rfl, how, hbw⟩)
        show _ ∧ _
        replace hS := nextB hS hbw
        rw [List.length_append, List.length_singleton, hlL.out] at how
        obtain ⟨aw, cw, rfl, _, hTw, _⟩ := own_tripsA how (by rw [List.length_append, List.length_singleton, hlL.out])
        clear how hbw
        refine ⟨hS, ?_⟩
        try simp only [Act.put, List.setIfInBounds_toArray, List.set_cons_zero, List.set_cons_succ]
        refine anyS_one 7 (by kernel_rfl) rfl ?_
        go_wp2_with (go_at_call 25; (with_reducible refine (B1'.out _ _ _ hTw).mono ?_); rintro eq u5 ⟨rfl, hbw⟩)
        show _ ∧ _
        replace hS := nextB hS hbw
        clear hbw hTw
        refine ⟨hS, ?_⟩
        try simp only [Act.put, List.setIfInBounds_toArray, List.set_cons_zero, List.set_cons_succ]
        refine anyS_pure 8 (.tuple #[strV r1, .bool e1]) rfl (by kernel_rfl) (by kernel_rfl) (by kernel_rfl) (fun _ _ _ h => h) (by rfl) (fun W hW => by go_simp) hS ?_
        try simp only [Act.put, List.setIfInBounds_toArray, List.set_cons_zero, List.set_cons_succ]
        refine anyS_pure 9 (strV r1) rfl (by kernel_rfl) (by kernel_rfl) (by kernel_rfl) (fun _ _ _ h => h) (by rfl) (fun W hW => by go_simp) hS ?_
        try simp only [Act.put, List.setIfInBounds_toArray, List.set_cons_zero, List.set_cons_succ]
        refine anyS_pure 10 (.bool e1) rfl (by kernel_rfl) (by kernel_rfl) (by kernel_rfl) (fun _ _ _ h => h) (by rfl) (fun W hW => by go_simp) hS ?_
        try simp only [Act.put, List.setIfInBounds_toArray, List.set_cons_zero, List.set_cons_succ]
        refine anyS_pure 11 (strV r1) rfl (by kernel_rfl) (by kernel_rfl) (by kernel_rfl) (fun _ _ _ h => h) (by rfl) (fun W hW => by go_simp) hS ?_
        try simp only [Act.put, List.setIfInBounds_toArray, List.set_cons_zero, List.set_cons_succ]
        refine anyS_one 12 (by kernel_rfl) rfl ?_
        go_wp2_with fail
        show _ ∧ _
        refine ⟨hS, ?_⟩
        try simp only [Act.put, List.setIfInBounds_toArray, List.set_cons_zero, List.set_cons_succ]
        refine anyS_end (by kernel_rfl) ?_
        have hq512 : q ≤ 512 := by have := LE.out; omega
        have BA5 := nextB BA0.out hS
        have own5 := owns_next hown0.out hS
        obtain ⟨b', off', eb, hc⟩ := trips_at (ZA.out _ BA5) (by omega)
        cases eb
        obtain ⟨z0, z1, z2⟩ := hc k hkl
        rw [ht.out] at z0 z1 z2
        clear hc hS PU0 PU1 BW0 BA0 hown0
        have hfl : ((T.take k).filter (inClo m L)).length ≤ 512 := by
          have h1 := List.length_filter_le (inClo m L) (T.take k)
          rw [List.length_take] at h1
          omega
        have hsz := BA5.size
        have hqq := own5.lt
        cases e0
        · cases e1
          · have eF2 := Lib.hid (show (T.take (k + 1)).filter (inClo m L) = (T.take k).filter (inClo m L) ++ [t] by rw [eF.out, ei.out]; rfl)
            generalize (T.take k).filter (inClo m L) = FL at *
            go_wp2_with (at_builtin; refine wpList_append_own _ rfl _ _ 22 rfl wA.heap.size 36 i0 (.agg #[.int .i64 0, .int .i64 0, .int .i64 0]) 3 24 Tryz.underlying22 G0.out G1.out G2.out G3.out rfl (by decide) _ _ _ rfl (own5.alloc _) ⟨_, 0, none⟩ 1 1 [.int .i64 t.1, .int .i64 t.2.1, .int .i64 t.2.2] rfl rfl (cell_three_new _ _ _ _ _) (by simp [Value.oneCell']) (by unfold maxLen; omega) (by omega) (by simp; omega) ?_; intro v' w6 hown6 hgrow _)
            have B6 := (BA5.alloc hsz (.cells #[.int .i64 t.1, .int .i64 t.2.1, .int .i64 t.2.2] 36)).grown hgrow (by simp; omega) (fun q hqx => by have := (hqq q hqx).1; omega)
            go_roundw
            case rel => exact ⟨k + 1, by omega, by go_num, by rw [eF2.out, cT_append, List.length_append, List.length_singleton]; exact hown6, B6⟩
            case measure => simp [intOf]; omega
          · have eF2 := Lib.hid (show (T.take (k + 1)).filter (inClo m L) = (T.take k).filter (inClo m L) by rw [eF.out, ei.out]; simp)
            replace own5 := Lib.hid own5
            go_wp2
            go_roundw
            case rel => exact ⟨k + 1, by omega, by go_num, by rw [eF2.out]; exact own5.out, BA5⟩
            case measure => simp [intOf]; omega
        · have eF2 := Lib.hid (show (T.take (k + 1)).filter (inClo m L) = (T.take k).filter (inClo m L) by rw [eF.out, ei.out]; simp)
          replace own5 := Lib.hid own5
          go_wp2
          go_roundw
          case rel => exact ⟨k + 1, by omega, by go_num, by rw [eF2.out]; exact own5.out, BA5⟩
          case measure => simp [intOf]; omega
      · obtain rfl : k = q := by omega
        rw [show T.take k = T by rw [← hq.out, List.take_length]] at hown
        have hsz := BA.out.size
        replace hown := Lib.hid (owns_base hown hsz)
        have B4 := BA.out.trans (B0.mono hsz)
        go_wp2
        go_ret2
        exact ⟨_, rfl, hown.out, B4⟩
  · rw [if_neg he]
    have hne : ((bldE n L).2 != 0) = true := by rw [bne_iff_ne]; exact he
    replace B := Lib.hid B
    clear h hl
    generalize (bldE n L).1 = s1 at *
    generalize (bldE n L).2 = e1 at *
    go_enter Tryz.func8, Tryz.ntmps8
    go_wp2_with (go_at_call 24; (with_reducible refine B.out.mono ?_); rintro eq wq ⟨rfl, hbq⟩)
    go_ret2
    exact ⟨_, rfl, World.ownsRow_nil _ _ _ _, hbq⟩
end Go.Proofs.YtfdaljekehkkaaaGreatDoor
