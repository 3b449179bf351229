/- Layer 4, by the program: Pairing. -/
import Derived.Test.YtbdhceolchhnjaaDoorAw
namespace Go.Proofs.YtbdhceolchhnjaaDoor
open Go Go.RowKit

theorem RowG.base {w : World} {G cap : Nat} {L : List (Int × Int)} (h : RowG w G cap L) {base : Nat} (hb : base ≤ G) : w.ownsRow base 58 2 (rowV G cap L) L.length (cP L) := by
  obtain ⟨h1, h2⟩ := h
  refine ⟨h1, ?_⟩
  rcases h2 with h2 | ⟨g, cap', cur, hv, hg, r⟩
  · exact .inl h2
  · refine .inr ⟨g, cap', cur, hv, ?_, r⟩
    simp only [Value.slice.injEq, Option.some.injEq, Addr.mk.injEq] at hv
    omega
theorem make_prs (k : Nat) (hk : k ≤ 4) : ∃ cur : Array Value, cur.size = k * 2 ∧ ∀ W : World, (Instr.makeSlice 32 (.int .i64 0) (.int .i64 (k : Int))).run Tryd.prog W = .ok (.slice (some ⟨W.heap.size, 0, none⟩) 0 k) (W.alloc (.cells cur 58)) := by
  obtain ⟨i0, hi, hz0, hz1, hz2⟩ := info_parts infoPairA
  refine ⟨madeCells (Value.agg #[.int .i64 0, .int .i64 0]).cells (k * 2), by simp [madeCells], fun W => ?_⟩
  have := run_make W 32 58 i0 (.agg #[.int .i64 0, .int .i64 0]) Tryd.underlying32 hi hz0 .i64 .i64 0 k (by omega) (by omega) (by rw [hz2]; omega) (by omega)
  rw [this]
  simp only [Int.toNat_natCast, hz1]
  rfl
/-- What pairing returned. -/
def PairRes (res : Option (List (Int × Int))) (w : World) (e : Ending) (w' : World) : Prop :=
  match res with
  | none => Below w.heap.size w w' ∧ e = .returned (.tuple #[.slice none 0 0, .bool false])
  | some r => Below w.heap.size w w' ∧ ∃ v, e = .returned (.tuple #[v, .bool true]) ∧ w'.ownsRow w.heap.size 58 2 v r.length (cP r)
set_option maxRecDepth 100000 in
set_option maxHeartbeats 8000000 in
theorem pairingF_any (m : Nat) (a : Option Addr) (n c : Nat) (R : List Int) (w : World) (hF : FieldP m R) (hn : R.length = n) (hI : Ints w a R) :
    Calls Tryd.prog 52 #[fV m a n c] w (PairRes (pairR m R) w) := by
  have hm9 := hF.le
  have hp9 : pw m ≤ 512 := by have := pw_mono hF.le; have h4 : pw 9 = 512 := rfl; omega
  have hp1 := pw_pos m
  have hints := Lib.hid hI
  have hn' := Lib.hid hn
  clear hI hn
  replace hF := Lib.hid hF
  have A := Lib.hid (fun W => all_any m a n c hm9 W)
  obtain ⟨q, hq⟩ : ∃ q, Hid (pairR m R = q) := ⟨_, Lib.hid rfl⟩
  have hq2 : Hid (rowS (m / 2 + 1) (fun k => pS m R k [] fun _ => true) 0 = q) := Lib.hid hq.out
  rw [hq.out]
  have hdv : (m : Int).tdiv 2 = ((m / 2 : Nat) : Int) := by rw [Int.tdiv_eq_ediv_of_nonneg (by omega)]; omega
  have had : IntKind.i64.wrap (((m / 2 : Nat) : Int) + 1) = ((m / 2 + 1 : Nat) : Int) := by rw [IntWalk.i64_in _ (by omega)]; omega
  obtain ⟨h2, hh2⟩ : ∃ h2, Hid (m / 2 = h2) := ⟨_, Lib.hid rfl⟩
  have hh4 : h2 ≤ 4 := by rw [← hh2.out]; omega
  rw [hh2.out] at hdv had
  have hb := b1 w (.cells #[.int .i64 (m : Nat), .slice a n c] 60)
  have hA := Blk.new w 60 #[.int .i64 (m : Nat), .slice a n c]
  have x0 : (w.alloc (.cells #[.int .i64 (m : Nat), .slice a n c] 60)).cell? ⟨w.heap.size, 0, none⟩ = some (.int .i64 (m : Nat)) := hA.c 0 rfl
  go_enter Tryd.func52, Tryd.ntmps52
  go_wp2
  clear x0
  have hflt := hA.lt
  generalize w.alloc (.cells #[.int .i64 (m : Nat), .slice a n c] 60) = w1 at *
  go_loopw [4, 5, 6, 11] (fun _ _ _ i wr => ∃ k : Nat, k ≤ h2 + 1 ∧ i = .int .i64 k ∧ rowS (m / 2 + 1) (fun k => pS m R k [] fun _ => true) k = q ∧ Blk wr w.heap.size 60 #[.int .i64 (m : Nat), .slice a n c] ∧ Below w.heap.size w wr ∧ w1.heap.size ≤ wr.heap.size) (fun _ _ _ i _ => h2 + 1 - (intOf i).toNat)
  case atStart => exact ⟨0, by omega, rfl, hq2.out, hA, hb, Nat.le_refl _⟩
  case round =>
    clear hA hb
    obtain ⟨k, hk, rfl, hr, hA, hb, hsz⟩ := hrel
    by_cases hlt : k < h2 + 1
    · have hki : (k : Int) < ((h2 + 1 : Nat) : Int) := by omega
      have hr2 : Hid ((pS m R k [] fun _ => true).or (rowS (m / 2 + 1) (fun k => pS m R k [] fun _ => true) (k + 1)) = q) := Lib.hid (by rw [← rowS_step (fun k => pS m R k [] fun _ => true) (by rw [hh2.out]; exact hlt)]; exact hr)
      clear hr
      obtain ⟨res0, hres⟩ : ∃ res, Hid ((pS m R k [] fun _ => true) = res) := ⟨_, Lib.hid rfl⟩
      obtain ⟨cur, hcs0, hmk⟩ := make_prs k (by omega)
      have hcs := Lib.hid hcs0
      clear hcs0
      go_wp2
      refine wp_region_S (fun W => Blk W w.heap.size 60 #[.int .i64 (m : Nat), .slice a n c]) (by kernel_rfl) ?_
      show wpAnyS _ _ _ _ _ (11 + 1) _ _ _
      have hA0 : Blk wr.drew w.heap.size 60 #[.int .i64 (m : Nat), .slice a n c] := hA
      have bV0 := hb.drew
      have hszV : Hid (w1.heap.size ≤ wr.drew.heap.size) := Lib.hid hsz
      clear hA hb hsz
      generalize hV0 : wr.drew = V0 at *
      have hA := hA0
      clear hA0
      refine anyS_pure 0 (fV m a n c) rfl (by kernel_rfl) (by kernel_rfl) (by kernel_rfl) (fun _ _ _ h => h) (by rfl) (fun W hW => by have y0 := hW.c 0 rfl; have y1 := hW.c 1 rfl; go_simp) hA ?_
      refine anyS_pure 1 (.int .i64 (k : Nat)) rfl (by kernel_rfl) (by kernel_rfl) (by kernel_rfl) (fun _ _ _ h => h) (by rfl) (fun W _ => by go_simp) hA ?_
      refine anyS_pure 3 (fV m a n c) rfl (by kernel_rfl) (by kernel_rfl) (by kernel_rfl) (fun _ _ _ h => h) (by rfl) (fun W hW => by have y0 := hW.c 0 rfl; have y1 := hW.c 1 rfl; go_simp) hA ?_
      refine anyS_pure 5 (.int .i64 (k : Nat)) rfl (by kernel_rfl) (by kernel_rfl) (by kernel_rfl) (fun _ _ _ h => h) (by rfl) (fun W _ => by go_simp) hA ?_
      try simp only [Act.put, List.setIfInBounds_toArray, List.set_cons_zero, List.set_cons_succ]
      have bV := Lib.hid bV0
      clear bV0
      replace hA := Lib.hid hA
      refine anyS_two 2 4 (by kernel_rfl) rfl rfl ?_ ?_
      · go_wp2_with fail
        show _ ∧ _
        have ba := b1 V0 (.cells cur 58)
        have hrowV : RowG (V0.alloc (.cells cur 58)) V0.heap.size k [] := World.ownsRow_made V0 cur k (Nat.zero_le _) (by unfold maxLen; omega) (by rw [hcs.out])
        refine ⟨hA.out.ext ba, ?_⟩
        try simp only [Act.put, List.setIfInBounds_toArray, List.set_cons_zero, List.set_cons_succ]
        replace hA := Lib.hid (hA.out.ext ba)
        replace bV := Lib.hid (nextB bV.out ba)
        have hG0 : w1.heap.size ≤ V0.heap.size := hszV.out
        clear hszV
        generalize V0.heap.size = G at *
        generalize V0.alloc (.cells cur 58) = V1 at *
        refine anyS_one 4 (by kernel_rfl) rfl ?_
        go_wp2_with (go_at_call 78; refine (A.out _).mono ?_; rintro e V2 ⟨rfl, hbV⟩)
        show _ ∧ _
        refine ⟨hA.out.ext hbV, ?_⟩
        try simp only [Act.put, List.setIfInBounds_toArray, List.set_cons_zero, List.set_cons_succ]
        replace hA := Lib.hid (hA.out.ext hbV)
        replace bV := Lib.hid (nextB bV.out hbV)
        have hrow2 := hrowV.keep hbV
        clear hbV hrowV
        generalize V2 = V at *
        have hGlo : w.heap.size ≤ G := by omega
        have hneG : w.heap.size ≠ G := by omega
        have hGV := hrow2.lt
        have C := Lib.hid (complete_any m a n c R G k w hF.out hn'.out k [] (fun _ => true) (pw m - 1) V ⟨bV.out, hGlo, hints.out, hrow2, by simp, by omega, (fun p hp => by cases hp), by omega, fun i hi => by rw [full_test]; exact decide_eq_true hi⟩)
        rw [hres.out] at C
        clear hrow2
        cases res0 with
        | none =>
          refine anyS_one 6 (by kernel_rfl) rfl ?_
          go_wp2_with (go_at_call 79; refine C.out.mono ?_; rintro e w8 ⟨hk8, ⟨v8, rfl⟩, hrow8⟩; replace hk8 := Lib.hid hk8; replace hrow8 := Lib.hid hrow8)
          show _ ∧ _
          have hA8 := hk8.out.blk (by omega) hA.out
          refine ⟨hA8, ?_⟩
          try simp only [Act.put, List.setIfInBounds_toArray, List.set_cons_zero, List.set_cons_succ]
          refine anyS_pure 7 (.tuple #[v8, .bool false]) rfl (by kernel_rfl) (by kernel_rfl) (by kernel_rfl) (fun _ _ _ h => h) (by rfl) (fun W _ => by go_simp) hA8 ?_
          refine anyS_pure 8 (v8) rfl (by kernel_rfl) (by kernel_rfl) (by kernel_rfl) (fun _ _ _ h => h) (by rfl) (fun W _ => by go_simp) hA8 ?_
          refine anyS_pure 9 (.bool false) rfl (by kernel_rfl) (by kernel_rfl) (by kernel_rfl) (fun _ _ _ h => h) (by rfl) (fun W _ => by go_simp) hA8 ?_
          try simp only [Act.put, List.setIfInBounds_toArray, List.set_cons_zero, List.set_cons_succ]
          replace hA8 := Lib.hid hA8
          have b8 := Lib.hid (hk8.out.below bV.out hGlo)
          refine anyS_one 10 (by kernel_rfl) rfl ?_
          go_wp2_with fail
          show _ ∧ _
          refine ⟨hA8.out, ?_⟩
          refine anyS_one 11 (by kernel_rfl) rfl ?_
          go_wp2_with fail
          show _ ∧ _
          refine ⟨hA8.out, ?_⟩
          refine anyS_end (by kernel_rfl) ?_
          have hr5 : Hid (rowS (m / 2 + 1) (fun k => pS m R k [] fun _ => true) (k + 1) = q) := Lib.hid (by have := hr2.out; rw [hres.out] at this; exact this)
          clear hr2
          go_wp2
          go_roundw
          case rel => exact ⟨k + 1, by omega, by go_num, hr5.out, hA8.out, b8.out, Nat.le_trans (Nat.le_trans hG0 (Nat.le_of_lt hGV)) hk8.out.size⟩
          case measure => simp [intOf]; omega
        | some res =>
          refine anyS_one 6 (by kernel_rfl) rfl ?_
          go_wp2_with (go_at_call 79; refine C.out.mono ?_; rintro e w8 ⟨hk8, rfl, hrow8⟩; replace hk8 := Lib.hid hk8; replace hrow8 := Lib.hid hrow8)
          show _ ∧ _
          have hA8 := hk8.out.blk (by omega) hA.out
          refine ⟨hA8, ?_⟩
          try simp only [Act.put, List.setIfInBounds_toArray, List.set_cons_zero, List.set_cons_succ]
          refine anyS_pure 7 (.tuple #[rowV G k res, .bool true]) rfl (by kernel_rfl) (by kernel_rfl) (by kernel_rfl) (fun _ _ _ h => h) (by rfl) (fun W _ => by go_simp) hA8 ?_
          refine anyS_pure 8 (rowV G k res) rfl (by kernel_rfl) (by kernel_rfl) (by kernel_rfl) (fun _ _ _ h => h) (by rfl) (fun W _ => by go_simp) hA8 ?_
          refine anyS_pure 9 (.bool true) rfl (by kernel_rfl) (by kernel_rfl) (by kernel_rfl) (fun _ _ _ h => h) (by rfl) (fun W _ => by go_simp) hA8 ?_
          try simp only [Act.put, List.setIfInBounds_toArray, List.set_cons_zero, List.set_cons_succ]
          replace hA8 := Lib.hid hA8
          have b8 := Lib.hid (hk8.out.below bV.out hGlo)
          refine anyS_one 10 (by kernel_rfl) rfl ?_
          go_wp2_with fail
          show _ ∧ _
          refine ⟨hA8.out, ?_⟩
          refine anyS_one 11 (by kernel_rfl) rfl ?_
          go_wp2_with fail
          show _ ∧ _
          refine ⟨hA8.out, ?_⟩
          refine anyS_end (by kernel_rfl) ?_
          have hq5 : Hid (q = some res) := Lib.hid (by have := hr2.out; rw [hres.out] at this; exact this.symm)
          clear hr2
          go_wp2
          go_ret2
          unfold PairRes
          rw [hq5.out]
          exact ⟨b8.out, _, rfl, hrow8.out.base hGlo⟩
      · go_wp2_with (go_at_call 78; refine (A.out _).mono ?_; rintro e V2 ⟨rfl, hbV⟩)
        show _ ∧ _
        refine ⟨hA.out.ext hbV, ?_⟩
        try simp only [Act.put, List.setIfInBounds_toArray, List.set_cons_zero, List.set_cons_succ]
        replace hA := Lib.hid (hA.out.ext hbV)
        replace bV := Lib.hid (nextB bV.out hbV)
        have hszV2 : Hid (w1.heap.size ≤ V2.heap.size) := Lib.hid (Nat.le_trans hszV.out hbV.size)
        clear hszV
        have hszV := hszV2
        clear hszV2 hbV
        clear hV0
        generalize V2 = V0 at *
        refine anyS_one 2 (by kernel_rfl) rfl ?_
        go_wp2_with fail
        show _ ∧ _
        have ba := b1 V0 (.cells cur 58)
        have hrowV : RowG (V0.alloc (.cells cur 58)) V0.heap.size k [] := World.ownsRow_made V0 cur k (Nat.zero_le _) (by unfold maxLen; omega) (by rw [hcs.out])
        refine ⟨hA.out.ext ba, ?_⟩
        try simp only [Act.put, List.setIfInBounds_toArray, List.set_cons_zero, List.set_cons_succ]
        replace hA := Lib.hid (hA.out.ext ba)
        replace bV := Lib.hid (nextB bV.out ba)
        have hG0 : w1.heap.size ≤ V0.heap.size := hszV.out
        clear hszV
        generalize V0.heap.size = G at *
        generalize V0.alloc (.cells cur 58) = V1 at *
        have hrow2 := hrowV
        clear hrowV
        generalize V1 = V at *
        have hGlo : w.heap.size ≤ G := by omega
        have hneG : w.heap.size ≠ G := by omega
        have hGV := hrow2.lt
        have C := Lib.hid (complete_any m a n c R G k w hF.out hn'.out k [] (fun _ => true) (pw m - 1) V ⟨bV.out, hGlo, hints.out, hrow2, by simp, by omega, (fun p hp => by cases hp), by omega, fun i hi => by rw [full_test]; exact decide_eq_true hi⟩)
        rw [hres.out] at C
        clear hrow2
        cases res0 with
        | none =>
          refine anyS_one 6 (by kernel_rfl) rfl ?_
          go_wp2_with (go_at_call 79; refine C.out.mono ?_; rintro e w8 ⟨hk8, ⟨v8, rfl⟩, hrow8⟩; replace hk8 := Lib.hid hk8; replace hrow8 := Lib.hid hrow8)
          show _ ∧ _
          have hA8 := hk8.out.blk (by omega) hA.out
          refine ⟨hA8, ?_⟩
          try simp only [Act.put, List.setIfInBounds_toArray, List.set_cons_zero, List.set_cons_succ]
          refine anyS_pure 7 (.tuple #[v8, .bool false]) rfl (by kernel_rfl) (by kernel_rfl) (by kernel_rfl) (fun _ _ _ h => h) (by rfl) (fun W _ => by go_simp) hA8 ?_
          refine anyS_pure 8 (v8) rfl (by kernel_rfl) (by kernel_rfl) (by kernel_rfl) (fun _ _ _ h => h) (by rfl) (fun W _ => by go_simp) hA8 ?_
          refine anyS_pure 9 (.bool false) rfl (by kernel_rfl) (by kernel_rfl) (by kernel_rfl) (fun _ _ _ h => h) (by rfl) (fun W _ => by go_simp) hA8 ?_
          try simp only [Act.put, List.setIfInBounds_toArray, List.set_cons_zero, List.set_cons_succ]
          replace hA8 := Lib.hid hA8
          have b8 := Lib.hid (hk8.out.below bV.out hGlo)
          refine anyS_one 10 (by kernel_rfl) rfl ?_
          go_wp2_with fail
          show _ ∧ _
          refine ⟨hA8.out, ?_⟩
          refine anyS_one 11 (by kernel_rfl) rfl ?_
          go_wp2_with fail
          show _ ∧ _
          refine ⟨hA8.out, ?_⟩
          refine anyS_end (by kernel_rfl) ?_
          have hr5 : Hid (rowS (m / 2 + 1) (fun k => pS m R k [] fun _ => true) (k + 1) = q) := Lib.hid (by have := hr2.out; rw [hres.out] at this; exact this)
          clear hr2
          go_wp2
          go_roundw
          case rel => exact ⟨k + 1, by omega, by go_num, hr5.out, hA8.out, b8.out, Nat.le_trans (Nat.le_trans hG0 (Nat.le_of_lt hGV)) hk8.out.size⟩
          case measure => simp [intOf]; omega
        | some res =>
          refine anyS_one 6 (by kernel_rfl) rfl ?_
          go_wp2_with (go_at_call 79; refine C.out.mono ?_; rintro e w8 ⟨hk8, rfl, hrow8⟩; replace hk8 := Lib.hid hk8; replace hrow8 := Lib.hid hrow8)
          show _ ∧ _
          have hA8 := hk8.out.blk (by omega) hA.out
          refine ⟨hA8, ?_⟩
          try simp only [Act.put, List.setIfInBounds_toArray, List.set_cons_zero, List.set_cons_succ]
          refine anyS_pure 7 (.tuple #[rowV G k res, .bool true]) rfl (by kernel_rfl) (by kernel_rfl) (by kernel_rfl) (fun _ _ _ h => h) (by rfl) (fun W _ => by go_simp) hA8 ?_
          refine anyS_pure 8 (rowV G k res) rfl (by kernel_rfl) (by kernel_rfl) (by kernel_rfl) (fun _ _ _ h => h) (by rfl) (fun W _ => by go_simp) hA8 ?_
          refine anyS_pure 9 (.bool true) rfl (by kernel_rfl) (by kernel_rfl) (by kernel_rfl) (fun _ _ _ h => h) (by rfl) (fun W _ => by go_simp) hA8 ?_
          try simp only [Act.put, List.setIfInBounds_toArray, List.set_cons_zero, List.set_cons_succ]
          replace hA8 := Lib.hid hA8
          have b8 := Lib.hid (hk8.out.below bV.out hGlo)
          refine anyS_one 10 (by kernel_rfl) rfl ?_
          go_wp2_with fail
          show _ ∧ _
          refine ⟨hA8.out, ?_⟩
          refine anyS_one 11 (by kernel_rfl) rfl ?_
          go_wp2_with fail
          show _ ∧ _
          refine ⟨hA8.out, ?_⟩
          refine anyS_end (by kernel_rfl) ?_
          have hq5 : Hid (q = some res) := Lib.hid (by have := hr2.out; rw [hres.out] at this; exact this.symm)
          clear hr2
          go_wp2
          go_ret2
          unfold PairRes
          rw [hq5.out]
          exact ⟨b8.out, _, rfl, hrow8.out.base hGlo⟩
    · obtain rfl : k = h2 + 1 := by omega
      have hq5 : Hid (q = none) := Lib.hid (by rw [← hr]; exact rowS_end _ (by rw [hh2.out]; exact Nat.le_refl _))
      clear hr
      go_wp2
      go_ret2
      unfold PairRes
      rw [hq5.out]
      exact ⟨hb, rfl⟩
/-- What Pairing returns. -/
def prE (x : Int) (R : List Int) : Nat := if fE x R = 0 then (if pairR x.toNat R = none then 10 else 0) else fE x R
def prL (x : Int) (R : List Int) : List (Int × Int) := if fE x R = 0 then (pairR x.toNat R).getD [] else []
/-- Pairs and an error were returned. -/
def PairsC (L : List (Int × Int)) (q : Nat) (w : World) (e : Ending) (w' : World) : Prop := ∃ a c, e = .returned (.tuple #[.slice a L.length c, .int .i64 (q : Nat)]) ∧ L.length ≤ c ∧ Prs w' a L ∧ Below w.heap.size w w'
set_option maxRecDepth 100000 in
set_option maxHeartbeats 4000000 in
theorem Pairing_any (x : Int) (a : Option Addr) (n c : Nat) (R : List Int) (w : World) (h : Ints w a R) (hn : R.length = n) :
    Calls Tryd.prog 17 #[.int .i64 x, .slice a n c] w (PairsC (prL x R) (prE x R) w) := by
  have F := Lib.hid (fun W hW => nf_any x a n c R W hW hn)
  have hI := Lib.hid h
  have hn' := Lib.hid hn
  clear h hn
  obtain ⟨e, he⟩ : ∃ e, Hid (fE x R = e) := ⟨_, Lib.hid rfl⟩
  obtain ⟨e2, he2⟩ : ∃ e, Hid (prE x R = e) := ⟨_, Lib.hid rfl⟩
  obtain ⟨L, hL⟩ : ∃ r, Hid (prL x R = r) := ⟨_, Lib.hid rfl⟩
  have he6 : e < 4 := by rw [← he.out]; exact fE_lt x R
  have hee : Hid (e2 = if e = 0 then (if pairR x.toNat R = none then 10 else 0) else e) := Lib.hid (by rw [← he2.out, ← he.out]; rfl)
  have hLL : Hid (L = if e = 0 then (pairR x.toNat R).getD [] else []) := Lib.hid (by rw [← hL.out, ← he.out]; rfl)
  rw [he.out] at F
  rw [he2.out, hL.out]
  by_cases h1 : e = 0
  · subst h1
    simp only [if_true] at F
    obtain ⟨hx, hF⟩ := fE_ok he.out
    obtain ⟨m, hm⟩ : ∃ m, x.toNat = m := ⟨_, rfl⟩
    rw [hm] at hx hF F hee hLL
    clear hm
    subst hx
    have P := Lib.hid (fun W hW => pairingF_any m a n c R W hF hn'.out hW)
    obtain ⟨res, hres⟩ : ∃ r, Hid (pairR m R = r) := ⟨_, Lib.hid rfl⟩
    rw [hres.out] at P hee hLL
    replace hF := Lib.hid hF
    cases res with
    | none =>
      have e5 : Hid (e2 = 10) := Lib.hid (by rw [hee.out]; rfl)
      have r5 : Hid (L = []) := Lib.hid (by rw [hLL.out]; rfl)
      rw [e5.out, r5.out]
      clear hee hLL
      go_enter Tryd.func17, Tryd.ntmps17
      go_wp2_with (first
        | (go_at_call 51; refine (F.out _ hI.out).mono ?_; rintro e w1 ⟨rfl, hb1⟩; have bw := Lib.hid (nextB hb1 (b1 w1 (.cells #[.int .i64 (m : Nat), .slice a n c] 60))))
        | (go_at_call 52; refine (P.out _ (hI.out.next bw.out)).mono ?_; rintro e w2 ⟨hb2, rfl⟩))
      go_ret2
      exact ⟨none, 0, rfl, Nat.le_refl _, .inl rfl, nextB bw.out hb2⟩
    | some r =>
      have e5 : Hid (e2 = 0) := Lib.hid (by rw [hee.out]; rfl)
      have r5 : Hid (L = r) := Lib.hid (by rw [hLL.out]; rfl)
      rw [e5.out, r5.out]
      clear hee hLL
      go_enter Tryd.func17, Tryd.ntmps17
      go_wp2_with (first
        | (go_at_call 51; refine (F.out _ hI.out).mono ?_; rintro e w1 ⟨rfl, hb1⟩; have bw := Lib.hid (nextB hb1 (b1 w1 (.cells #[.int .i64 (m : Nat), .slice a n c] 60))))
        | (go_at_call 52; refine (P.out _ (hI.out.next bw.out)).mono ?_; rintro e w2 ⟨hb2, v2, rfl, hown2⟩; obtain ⟨pa, pc, rfl, hpc, hpr⟩ := own_prs hown2; replace hpr := Lib.hid hpr; clear hown2))
      go_ret2
      exact ⟨pa, pc, rfl, hpc, hpr.out, nextB bw.out hb2⟩
  · have e5 : Hid (e2 = e) := Lib.hid (by rw [hee.out, if_neg h1])
    have r5 : Hid (L = []) := Lib.hid (by rw [hLL.out, if_neg h1])
    rw [e5.out, r5.out]
    rw [if_neg h1] at F
    have d1 : ((e : Int) != 0) = true := by rw [bne_iff_ne]; omega
    go_enter Tryd.func17, Tryd.ntmps17
    go_wp2_with (go_at_call 51; refine (F.out _ hI.out).mono ?_; rintro e w1 ⟨rfl, hb1⟩)
    go_ret2
    exact ⟨none, 0, rfl, Nat.le_refl _, .inl rfl, nextB hb1 (b1 _ _)⟩
end Go.Proofs.YtbdhceolchhnjaaDoor
