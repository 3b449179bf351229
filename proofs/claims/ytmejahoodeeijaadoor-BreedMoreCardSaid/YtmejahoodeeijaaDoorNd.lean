/- BreedMore, walked. -/
import Derived.Test.YtmejahoodeeijaaDoorNc
import Derived.Test.YtmejahoodeeijaaDoorNa
import Derived.Test.YtmejahoodeeijaaDoorAr
namespace Go.Proofs.YtmejahoodeeijaaDoor
open Go Go.RowKit

/-- The cells of one triple. -/
abbrev c3 (x : T3) : Array Value := #[.int .i64 x.1, .int .i64 x.2.1, .int .i64 x.2.2]
/-- The box, and what is old. -/
def BoxS (w : World) (x : T3) (W : World) : Prop := Blk W w.heap.size 29 (c3 x) ∧ Below w.heap.size w W
theorem BoxS.alloc {w W : World} {x : T3} (h : BoxS w x W) (o : Obj) : BoxS w x (W.alloc o) := ⟨h.1.alloc o, nextB h.2 (b1 _ _)⟩
theorem BoxS.next {w W W' : World} {x : T3} (h : BoxS w x W) (hb : Below W.heap.size W W') : BoxS w x W' := ⟨h.1.ext hb, nextB h.2 hb⟩
theorem BoxS.grown {w W W' : World} {x : T3} {e : TypeId} {v : Value} {n k : Nat} {xs : List Value} (h : BoxS w x W) (ho : W.ownsRow (w.heap.size + 1) e k v n xs) (hg : W.grownBy W' v.ownBlock) : BoxS w x W' :=
  ⟨(hg.block _ h.1.lt (fun k => by have := (ho.lt _ k.symm).1; omega)).trans h.1, h.2.grown hg h.2.size (fun k hk => by have := (ho.lt k hk).1; omega)⟩
theorem BoxS.size {w W : World} {x : T3} (h : BoxS w x W) : w.heap.size + 1 ≤ W.heap.size := h.1.lt
theorem trips_new {W : World} {b : Nat} {x : T3} (h : Blk W b 29 (c3 x)) : Trips W (some ⟨b, 0, none⟩) [x] := .inr ⟨b, 0, rfl, fun i hi => by
  have : i = 0 := by simpa using hi
  subst this
  exact ⟨h.c 0 rfl, h.c 1 rfl, h.c 2 rfl⟩⟩
theorem own_empty (W : World) (base : Nat) (h : base ≤ W.heap.size) : (W.alloc (.cells #[] 29)).ownsRow base 29 3 (.slice (some ⟨W.heap.size, 0, none⟩) 0 0) 0 (cT []) := World.ownsRow_made W #[] 0 h (by decide) rfl
set_option maxRecDepth 100000 in
set_option maxHeartbeats 16000000 in
theorem more_late (m : Nat) (a : Option Addr) (l c : Nat) (L : List T3) (x : T3) (s : List UInt8) (w : World) (h : Trips w a L) (hl : L.length = l) (hnil : a = none → c = 0) (hT : Tab w) (hM : Mem m L) (hx : isT m x = true) (h6 : L.length < 60) (hs : s.length ≤ 100) :
    Calls Tryd.prog 4 #[.int .i64 (m : Int), .slice a l c, t3V x, strV s] w (Ret (.bool true) w) := by
  subst hl
  have bA := b1 w (.cells #[.int .i64 x.1, .int .i64 x.2.1, .int .i64 x.2.2] 29)
  have hA := box_load w x
  have F := Lib.hid (fun W => few_any none 0 0 s W)
  have F0 : (decide (0 ≤ 100) && decide (s.length ≤ 100)) = true := by simp [hs]
  rw [F0] at F
  have hlis : lisE m L = 0 := by
    unfold lisE
    rw [if_neg (by omega), if_pos (List.all_eq_true.2 hM.tri)]
  have R := Lib.hid (fun W (hW : Below w.heap.size w W) => refList_any m a L.length c L W (h.next hW) rfl (by omega))
  rw [hlis] at R
  have I := Lib.hid (fun W => refIsTriple_any m x.1 x.2.1 x.2.2 W)
  change Hid (∀ W, Calls Tryd.prog 10 _ W (Ret (.bool (isT m x)) W)) at I
  rw [hx] at I
  have C := Lib.hid (fun W (hW : Below w.heap.size w W) => alive_any W (hT.next hW))
  have hI := Lib.hid (fun W (hW : Below w.heap.size w W) => h.next hW)
  have hTT := Lib.hid (fun W (hW : Below w.heap.size w W) => hT.next hW)
  have hm1 := hM.one
  have hm8 := hM.eight
  have n1 : ¬ (m : Int) < 1 := by omega
  have n2 : ¬ (8 : Int) < (m : Int) := by omega
  have i1 : ¬ (60 : Int) ≤ (L.length : Int) := by omega
  have hLL : (L ++ [x]).length = L.length + 1 := by simp
  have MM := more_math s hM hx h6
  have BL := fun W (hW : Below w.heap.size w W) => Build_any m a L.length c L W (h.next hW) rfl (by omega) (hT.next hW)
  have BA := fun W a9 c9 (h9 : Trips W a9 (L ++ [x])) (hW : Below w.heap.size w W) => Build_any m a9 (L.length + 1) c9 (L ++ [x]) W h9 hLL (by omega) (hT.next hW)
  have S1 := fun W (hW : Below w.heap.size w W) => Shows_any m (bldE m (L ++ [x])).1 a L.length c L W (h.next hW) rfl (by omega) (hT.next hW)
  have S2 := fun W b (h9 : Trips W (some ⟨b, 0, none⟩) [x]) (hW : Below w.heap.size w W) => Shows_any m (bldE m L).1 (some ⟨b, 0, none⟩) 1 1 [x] W h9 rfl (by omega) (hT.next hW)
  have S3 := fun W a9 c9 (h9 : Trips W a9 (L ++ [x])) (hW : Below w.heap.size w W) => Shows_any m s a9 (L.length + 1) c9 (L ++ [x]) W h9 hLL (by omega) (hT.next hW)
  have S4 := fun W (hW : Below w.heap.size w W) => Shows_any m s a L.length c L W (h.next hW) rfl (by omega) (hT.next hW)
  generalize (bldE m (L ++ [x])).1 = s2 at *
  generalize (bldE m (L ++ [x])).2 = f at *
  generalize (bldE m L).1 = s1 at *
  generalize (bldE m L).2 = e at *
  generalize shoE m s2 L = X1 at *
  generalize shoE m s1 [x] = X2 at *
  generalize shoE m s (L ++ [x]) = X3 at *
  generalize shoE m s L = X4 at *
  obtain ⟨p1, q1⟩ := X1
  obtain ⟨p2, q2⟩ := X2
  obtain ⟨p3, q3⟩ := X3
  obtain ⟨p4, q4⟩ := X4
  dsimp only at MM BL BA S1 S2 S3 S4
  have CS : (f = 0 ∧ e = 0 ∧ p1 = true ∧ q1 = 0 ∧ q2 = 0) ∨ (f ≠ 0 ∧ e = 0 ∧ p2 = false ∧ q2 = 0) ∨ (f ≠ 0 ∧ e ≠ 0) := by
    obtain ⟨m1, m2, _⟩ := MM
    by_cases hf : f = 0
    · obtain ⟨h1, h2⟩ := m1 hf
      simp only [Prod.mk.injEq] at h2
      exact .inl ⟨hf, h1, h2.1, h2.2, (m2 h1).1⟩
    · by_cases he : e = 0
      · refine .inr (.inl ⟨hf, he, ?_, (m2 he).1⟩)
        cases p2
        · rfl
        · exact absurd ((m2 he).2 rfl) hf
      · exact .inr (.inr ⟨hf, he⟩)
  have C3 : q3 = q4 ∧ (p3 = true → p4 = true) := MM.2.2
  clear MM
  replace BL := Lib.hid BL
  replace BA := Lib.hid BA
  replace S1 := Lib.hid S1
  replace S2 := Lib.hid S2
  replace S3 := Lib.hid S3
  replace S4 := Lib.hid S4
  replace CS := Lib.hid CS
  obtain ⟨rfl, C3⟩ := C3
  replace C3 := Lib.hid C3
  clear h hT F0 hlis hs hM hx
  have x0 := hA.c 0 rfl
  have x1 := hA.c 1 rfl
  have x2 := hA.c 2 rfl
  replace bA := Lib.hid bA
  replace hA := Lib.hid hA
  go_enter Tryd.func4, Tryd.ntmps4
  go_wp2_with (first
    | (go_at_call 8; (with_reducible refine (F.out _).mono ?_); rintro e2 w2 ⟨rfl, rfl⟩)
    | (go_at_call 9; (with_reducible refine (R.out _ bA.out).mono ?_); rintro e3 w3 ⟨rfl, hb3⟩; have hA3 := hA.out.ext hb3; clear x0 x1 x2; have x0 := hA3.c 0 rfl; have x1 := hA3.c 1 rfl; have x2 := hA3.c 2 rfl)
    | (go_at_call 10; (with_reducible refine (I.out _).mono ?_); rintro e4 w4 ⟨rfl, hb4⟩; have hA4 := hA3.ext hb4))
  clear x0 x1 x2
  have B4 := nextB (nextB bA.out hb3) hb4
  clear hA3 hb3 hb4 bA hA F R I
  refine wp_region_S (BoxS w x) (by kernel_rfl) ?_
  show wpAnyS _ _ _ _ _ (6 + 1) _ _ _
  have hS : BoxS w x w4.drew := ⟨hA4, B4.drew⟩
  clear hA4 B4
  generalize w4.drew = v0 at *
  have PU : ∀ W, BoxS w x W → W.cell? ⟨w.heap.size, 0, none⟩ = some (.int .i64 x.1) ∧ W.cell? ⟨w.heap.size, 1, none⟩ = some (.int .i64 x.2.1) ∧ W.cell? ⟨w.heap.size, 2, none⟩ = some (.int .i64 x.2.2) := fun W hW => ⟨hW.1.c 0 rfl, hW.1.c 1 rfl, hW.1.c 2 rfl⟩
  replace PU := Lib.hid PU
  refine anyS_pure 1 (.slice a L.length c) rfl (by kernel_rfl) (by kernel_rfl) (by kernel_rfl) (fun _ _ _ h => h) (by rfl) (fun W hW => by go_simp) hS ?_
  refine anyS_pure 3 (t3V x) rfl (by kernel_rfl) (by kernel_rfl) (by kernel_rfl) (fun _ _ _ h => h) (by rfl) (fun W hW => by obtain ⟨y0, y1, y2⟩ := PU.out W hW; go_simp) hS ?_
  try simp only [Act.put, List.setIfInBounds_toArray]
  replace hS := Lib.hid hS
  clear PU
  refine anyS_two 0 4 (by kernel_rfl) rfl rfl ?_ ?_
  · skip
    go_wp2_with fail
    show _ ∧ _
    have hE : Hid ((v0.alloc (.cells #[] 29)).ownsRow (w.heap.size + 1) 29 3 (.slice (some ⟨v0.heap.size, 0, none⟩) 0 0) 0 (cT [])) := Lib.hid (own_empty v0 _ hS.out.size)
    have hEs : Hid (v0.heap.size < (v0.alloc (.cells #[] 29)).heap.size) := Lib.hid (by rw [World.size_alloc]; omega)
    replace hS : Hid (BoxS w x (v0.alloc (.cells #[] 29))) := Lib.hid (hS.out.alloc _)
    generalize v0.alloc (.cells #[] 29) = v1 at *
    generalize v0.heap.size = bE at *
    refine ⟨hS.out, ?_⟩
    try simp only [Act.put, List.setIfInBounds_toArray, List.set_cons_zero, List.set_cons_succ]
    refine anyS_two 2 4 (by kernel_rfl) rfl rfl ?_ ?_
    · skip
      refine wpList_copyT rfl _ _ rfl (w.heap.size + 1) _ rfl 0 [] hE.out rfl a L.length c L rfl (hI.out _ hS.out.2) rfl hnil (by omega) hS.out.size ?_
      intro r2 v2 ho2 hg2
      replace hg2 : World.grownBy _ _ (Value.slice (some ⟨bE, 0, none⟩) 0 0).ownBlock := hg2
      change wpList _ _ _ [] (Act.put _ (some 53) _) _
      go_wp2_with fail
      show _ ∧ _
      replace hS := Lib.hid (hS.out.grown hE.out hg2)
      replace ho2 := Lib.hid ho2
      clear hg2 hE
      refine ⟨hS.out, ?_⟩
      try simp only [Act.put, List.setIfInBounds_toArray, List.set_cons_zero, List.set_cons_succ]
      refine anyS_one 4 (by kernel_rfl) rfl ?_
      go_wp2_with fail
      show _ ∧ _
      have hM4 : Hid (Blk (v2.alloc (.cells (c3 x) 29)) v2.heap.size 29 (c3 x)) := Lib.hid (Blk.new _ _ _)
      have hM4b : Hid (v2.heap.size < (v2.alloc (.cells (c3 x) 29)).heap.size) := Lib.hid (by rw [World.size_alloc]; omega)
      replace ho2 := Lib.hid (ho2.out.alloc (.cells (c3 x) 29))
      replace hS : Hid (BoxS w x (v2.alloc (.cells (c3 x) 29))) := Lib.hid (hS.out.alloc _)
      generalize v2.alloc (.cells (c3 x) 29) = v3 at *
      generalize v2.heap.size = b4 at *
      refine ⟨hS.out, ?_⟩
      try simp only [Act.put, List.setIfInBounds_toArray, List.set_cons_zero, List.set_cons_succ]
      refine anyS_one 5 (by kernel_rfl) rfl ?_
      refine wpList_copyT rfl _ _ rfl (w.heap.size + 1) _ rfl (0 + L.length) ([] ++ L) ho2.out (by simp) (some ⟨b4, 0, none⟩) 1 1 [x] rfl (trips_new hM4.out) rfl (fun h => by cases h) (by omega) hS.out.size ?_
      intro r5 v4 ho5 hg5
      change wpList _ _ _ [] (Act.put _ (some 56) _) _
      go_wp2_with fail
      show _ ∧ _
      replace hS := Lib.hid (hS.out.grown ho2.out hg5)
      rw [List.nil_append] at ho5
      obtain ⟨a9, c9, rfl, hc9, hT9, hn9⟩ := own_tripsA ho5 (by simp)
      replace ho5 := Lib.hid ho5
      clear ho2 hg5 hM4
      refine ⟨hS.out, ?_⟩
      try simp only [Act.put, List.setIfInBounds_toArray, List.set_cons_zero, List.set_cons_succ]
      refine anyS_one 6 (by kernel_rfl) rfl ?_
      go_wp2_with fail
      show _ ∧ _
      refine ⟨hS.out, ?_⟩
      try simp only [Act.put, List.setIfInBounds_toArray, List.set_cons_zero, List.set_cons_succ]
      refine anyS_end (by kernel_rfl) ?_
      have B5 := hS.out.2
      replace hS := Lib.hid hS.out
      have x0 := hS.out.1.c 0 rfl
      have x1 := hS.out.1.c 1 rfl
      have x2 := hS.out.1.c 2 rfl
      clear ho5 hc9 hn9
      replace hT9 := hT9
      rcases CS.out with ⟨rfl, rfl, rfl, rfl, rfl⟩ | ⟨hf, rfl, rfl, rfl⟩ | ⟨hf, he⟩
      all_goals
        try (have hf2 : (f == 0) = false := by rw [beq_eq_false_iff_ne]; exact hf)
        try (have he2 : (e == 0) = false := by rw [beq_eq_false_iff_ne]; exact he)
        cases p3
        · go_wp2_with (first
            | (go_at_call 11; (with_reducible refine (BL.out _ B5).mono ?_); rintro eq wq ⟨rfl, hbq⟩; replace B5 := nextB B5 hbq; replace hT9 := hT9.next hbq; replace hS := Lib.hid (hS.out.next hbq); clear x0 x1 x2; have x0 := hS.out.1.c 0 rfl; have x1 := hS.out.1.c 1 rfl; have x2 := hS.out.1.c 2 rfl)
            | (go_at_call 11; (with_reducible refine (BA.out _ _ _ hT9 B5).mono ?_); rintro eq wq ⟨rfl, hbq⟩; replace B5 := nextB B5 hbq; replace hT9 := hT9.next hbq; replace hS := Lib.hid (hS.out.next hbq); clear x0 x1 x2; have x0 := hS.out.1.c 0 rfl; have x1 := hS.out.1.c 1 rfl; have x2 := hS.out.1.c 2 rfl)
            | (go_at_call 12; (with_reducible refine (S1.out _ B5).mono ?_); rintro eq wq ⟨rfl, hbq⟩; replace B5 := nextB B5 hbq; replace hT9 := hT9.next hbq; replace hS := Lib.hid (hS.out.next hbq); clear x0 x1 x2; have x0 := hS.out.1.c 0 rfl; have x1 := hS.out.1.c 1 rfl; have x2 := hS.out.1.c 2 rfl)
            | (go_at_call 12; (with_reducible refine (S3.out _ _ _ hT9 B5).mono ?_); rintro eq wq ⟨rfl, hbq⟩; replace B5 := nextB B5 hbq; replace hT9 := hT9.next hbq; replace hS := Lib.hid (hS.out.next hbq); clear x0 x1 x2; have x0 := hS.out.1.c 0 rfl; have x1 := hS.out.1.c 1 rfl; have x2 := hS.out.1.c 2 rfl)
            | (go_at_call 12; (with_reducible refine (S4.out _ B5).mono ?_); rintro eq wq ⟨rfl, hbq⟩; replace B5 := nextB B5 hbq; replace hT9 := hT9.next hbq; replace hS := Lib.hid (hS.out.next hbq); clear x0 x1 x2; have x0 := hS.out.1.c 0 rfl; have x1 := hS.out.1.c 1 rfl; have x2 := hS.out.1.c 2 rfl)
            | (go_at_call 12; replace B5 := nextB B5 (b1 wq (.cells (c3 x) 29)); replace hT9 := hT9.next (b1 wq (.cells (c3 x) 29)); replace hS := Lib.hid (hS.out.alloc (.cells (c3 x) 29)); refine (S2.out _ _ (trips_new (Blk.new wq 29 (c3 x))) B5).mono ?_; rintro eq wq ⟨rfl, hbq⟩; replace B5 := nextB B5 hbq; replace hT9 := hT9.next hbq; replace hS := Lib.hid (hS.out.next hbq); clear x0 x1 x2; have x0 := hS.out.1.c 0 rfl; have x1 := hS.out.1.c 1 rfl; have x2 := hS.out.1.c 2 rfl)
            | (go_at_call 7; (with_reducible refine (C.out _ B5).mono ?_); rintro eq wq ⟨rfl, hbq⟩; replace B5 := nextB B5 hbq))
          all_goals (go_ret; exact Ret.mk rfl B5)
        · obtain rfl := C3.out rfl
          go_wp2_with (first
            | (go_at_call 11; (with_reducible refine (BL.out _ B5).mono ?_); rintro eq wq ⟨rfl, hbq⟩; replace B5 := nextB B5 hbq; replace hT9 := hT9.next hbq; replace hS := Lib.hid (hS.out.next hbq); clear x0 x1 x2; have x0 := hS.out.1.c 0 rfl; have x1 := hS.out.1.c 1 rfl; have x2 := hS.out.1.c 2 rfl)
            | (go_at_call 11; (with_reducible refine (BA.out _ _ _ hT9 B5).mono ?_); rintro eq wq ⟨rfl, hbq⟩; replace B5 := nextB B5 hbq; replace hT9 := hT9.next hbq; replace hS := Lib.hid (hS.out.next hbq); clear x0 x1 x2; have x0 := hS.out.1.c 0 rfl; have x1 := hS.out.1.c 1 rfl; have x2 := hS.out.1.c 2 rfl)
            | (go_at_call 12; (with_reducible refine (S1.out _ B5).mono ?_); rintro eq wq ⟨rfl, hbq⟩; replace B5 := nextB B5 hbq; replace hT9 := hT9.next hbq; replace hS := Lib.hid (hS.out.next hbq); clear x0 x1 x2; have x0 := hS.out.1.c 0 rfl; have x1 := hS.out.1.c 1 rfl; have x2 := hS.out.1.c 2 rfl)
            | (go_at_call 12; (with_reducible refine (S3.out _ _ _ hT9 B5).mono ?_); rintro eq wq ⟨rfl, hbq⟩; replace B5 := nextB B5 hbq; replace hT9 := hT9.next hbq; replace hS := Lib.hid (hS.out.next hbq); clear x0 x1 x2; have x0 := hS.out.1.c 0 rfl; have x1 := hS.out.1.c 1 rfl; have x2 := hS.out.1.c 2 rfl)
            | (go_at_call 12; (with_reducible refine (S4.out _ B5).mono ?_); rintro eq wq ⟨rfl, hbq⟩; replace B5 := nextB B5 hbq; replace hT9 := hT9.next hbq; replace hS := Lib.hid (hS.out.next hbq); clear x0 x1 x2; have x0 := hS.out.1.c 0 rfl; have x1 := hS.out.1.c 1 rfl; have x2 := hS.out.1.c 2 rfl)
            | (go_at_call 12; replace B5 := nextB B5 (b1 wq (.cells (c3 x) 29)); replace hT9 := hT9.next (b1 wq (.cells (c3 x) 29)); replace hS := Lib.hid (hS.out.alloc (.cells (c3 x) 29)); refine (S2.out _ _ (trips_new (Blk.new wq 29 (c3 x))) B5).mono ?_; rintro eq wq ⟨rfl, hbq⟩; replace B5 := nextB B5 hbq; replace hT9 := hT9.next hbq; replace hS := Lib.hid (hS.out.next hbq); clear x0 x1 x2; have x0 := hS.out.1.c 0 rfl; have x1 := hS.out.1.c 1 rfl; have x2 := hS.out.1.c 2 rfl)
            | (go_at_call 7; (with_reducible refine (C.out _ B5).mono ?_); rintro eq wq ⟨rfl, hbq⟩; replace B5 := nextB B5 hbq))
          all_goals (go_ret; exact Ret.mk rfl B5)
    · skip
      go_wp2_with fail
      show _ ∧ _
      have hM4 : Hid (Blk (v1.alloc (.cells (c3 x) 29)) v1.heap.size 29 (c3 x)) := Lib.hid (Blk.new _ _ _)
      have hM4b : Hid (v1.heap.size < (v1.alloc (.cells (c3 x) 29)).heap.size) := Lib.hid (by rw [World.size_alloc]; omega)
      replace hE := Lib.hid (hE.out.alloc (.cells (c3 x) 29))
      have hne : Hid (v1.heap.size ≠ bE) := Lib.hid (by have := hEs.out; omega)
      replace hS : Hid (BoxS w x (v1.alloc (.cells (c3 x) 29))) := Lib.hid (hS.out.alloc _)
      generalize v1.alloc (.cells (c3 x) 29) = v2 at *
      generalize v1.heap.size = b4 at *
      refine ⟨hS.out, ?_⟩
      try simp only [Act.put, List.setIfInBounds_toArray, List.set_cons_zero, List.set_cons_succ]
      refine anyS_one 2 (by kernel_rfl) rfl ?_
      refine wpList_copyT rfl _ _ rfl (w.heap.size + 1) _ rfl 0 [] hE.out rfl a L.length c L rfl (hI.out _ hS.out.2) rfl hnil (by omega) hS.out.size ?_
      intro r2 v3 ho2 hg2
      replace hg2 : World.grownBy _ _ (Value.slice (some ⟨bE, 0, none⟩) 0 0).ownBlock := hg2
      change wpList _ _ _ [] (Act.put _ (some 53) _) _
      go_wp2_with fail
      show _ ∧ _
      replace hM4 : Hid (Blk v3 b4 29 (c3 x)) := Lib.hid ((hg2.block _ hM4.out.lt (by simp only [Value.ownBlock, ne_eq, Option.some.injEq]; exact hne.out)).trans hM4.out)
      replace hS := Lib.hid (hS.out.grown hE.out hg2)
      replace ho2 := Lib.hid ho2
      clear hg2 hE
      refine ⟨hS.out, ?_⟩
      try simp only [Act.put, List.setIfInBounds_toArray, List.set_cons_zero, List.set_cons_succ]
      refine anyS_one 5 (by kernel_rfl) rfl ?_
      refine wpList_copyT rfl _ _ rfl (w.heap.size + 1) _ rfl (0 + L.length) ([] ++ L) ho2.out (by simp) (some ⟨b4, 0, none⟩) 1 1 [x] rfl (trips_new hM4.out) rfl (fun h => by cases h) (by omega) hS.out.size ?_
      intro r5 v4 ho5 hg5
      change wpList _ _ _ [] (Act.put _ (some 56) _) _
      go_wp2_with fail
      show _ ∧ _
      replace hS := Lib.hid (hS.out.grown ho2.out hg5)
      rw [List.nil_append] at ho5
      obtain ⟨a9, c9, rfl, hc9, hT9, hn9⟩ := own_tripsA ho5 (by simp)
      replace ho5 := Lib.hid ho5
      clear ho2 hg5 hM4
      refine ⟨hS.out, ?_⟩
      try simp only [Act.put, List.setIfInBounds_toArray, List.set_cons_zero, List.set_cons_succ]
      refine anyS_one 6 (by kernel_rfl) rfl ?_
      go_wp2_with fail
      show _ ∧ _
      refine ⟨hS.out, ?_⟩
      try simp only [Act.put, List.setIfInBounds_toArray, List.set_cons_zero, List.set_cons_succ]
      refine anyS_end (by kernel_rfl) ?_
      have B5 := hS.out.2
      replace hS := Lib.hid hS.out
      have x0 := hS.out.1.c 0 rfl
      have x1 := hS.out.1.c 1 rfl
      have x2 := hS.out.1.c 2 rfl
      clear ho5 hc9 hn9
      replace hT9 := hT9
      rcases CS.out with ⟨rfl, rfl, rfl, rfl, rfl⟩ | ⟨hf, rfl, rfl, rfl⟩ | ⟨hf, he⟩
      all_goals
        try (have hf2 : (f == 0) = false := by rw [beq_eq_false_iff_ne]; exact hf)
        try (have he2 : (e == 0) = false := by rw [beq_eq_false_iff_ne]; exact he)
        cases p3
        · go_wp2_with (first
            | (go_at_call 11; (with_reducible refine (BL.out _ B5).mono ?_); rintro eq wq ⟨rfl, hbq⟩; replace B5 := nextB B5 hbq; replace hT9 := hT9.next hbq; replace hS := Lib.hid (hS.out.next hbq); clear x0 x1 x2; have x0 := hS.out.1.c 0 rfl; have x1 := hS.out.1.c 1 rfl; have x2 := hS.out.1.c 2 rfl)
            | (go_at_call 11; (with_reducible refine (BA.out _ _ _ hT9 B5).mono ?_); rintro eq wq ⟨rfl, hbq⟩; replace B5 := nextB B5 hbq; replace hT9 := hT9.next hbq; replace hS := Lib.hid (hS.out.next hbq); clear x0 x1 x2; have x0 := hS.out.1.c 0 rfl; have x1 := hS.out.1.c 1 rfl; have x2 := hS.out.1.c 2 rfl)
            | (go_at_call 12; (with_reducible refine (S1.out _ B5).mono ?_); rintro eq wq ⟨rfl, hbq⟩; replace B5 := nextB B5 hbq; replace hT9 := hT9.next hbq; replace hS := Lib.hid (hS.out.next hbq); clear x0 x1 x2; have x0 := hS.out.1.c 0 rfl; have x1 := hS.out.1.c 1 rfl; have x2 := hS.out.1.c 2 rfl)
            | (go_at_call 12; (with_reducible refine (S3.out _ _ _ hT9 B5).mono ?_); rintro eq wq ⟨rfl, hbq⟩; replace B5 := nextB B5 hbq; replace hT9 := hT9.next hbq; replace hS := Lib.hid (hS.out.next hbq); clear x0 x1 x2; have x0 := hS.out.1.c 0 rfl; have x1 := hS.out.1.c 1 rfl; have x2 := hS.out.1.c 2 rfl)
            | (go_at_call 12; (with_reducible refine (S4.out _ B5).mono ?_); rintro eq wq ⟨rfl, hbq⟩; replace B5 := nextB B5 hbq; replace hT9 := hT9.next hbq; replace hS := Lib.hid (hS.out.next hbq); clear x0 x1 x2; have x0 := hS.out.1.c 0 rfl; have x1 := hS.out.1.c 1 rfl; have x2 := hS.out.1.c 2 rfl)
            | (go_at_call 12; replace B5 := nextB B5 (b1 wq (.cells (c3 x) 29)); replace hT9 := hT9.next (b1 wq (.cells (c3 x) 29)); replace hS := Lib.hid (hS.out.alloc (.cells (c3 x) 29)); refine (S2.out _ _ (trips_new (Blk.new wq 29 (c3 x))) B5).mono ?_; rintro eq wq ⟨rfl, hbq⟩; replace B5 := nextB B5 hbq; replace hT9 := hT9.next hbq; replace hS := Lib.hid (hS.out.next hbq); clear x0 x1 x2; have x0 := hS.out.1.c 0 rfl; have x1 := hS.out.1.c 1 rfl; have x2 := hS.out.1.c 2 rfl)
            | (go_at_call 7; (with_reducible refine (C.out _ B5).mono ?_); rintro eq wq ⟨rfl, hbq⟩; replace B5 := nextB B5 hbq))
          all_goals (go_ret; exact Ret.mk rfl B5)
        · obtain rfl := C3.out rfl
          go_wp2_with (first
            | (go_at_call 11; (with_reducible refine (BL.out _ B5).mono ?_); rintro eq wq ⟨rfl, hbq⟩; replace B5 := nextB B5 hbq; replace hT9 := hT9.next hbq; replace hS := Lib.hid (hS.out.next hbq); clear x0 x1 x2; have x0 := hS.out.1.c 0 rfl; have x1 := hS.out.1.c 1 rfl; have x2 := hS.out.1.c 2 rfl)
            | (go_at_call 11; (with_reducible refine (BA.out _ _ _ hT9 B5).mono ?_); rintro eq wq ⟨rfl, hbq⟩; replace B5 := nextB B5 hbq; replace hT9 := hT9.next hbq; replace hS := Lib.hid (hS.out.next hbq); clear x0 x1 x2; have x0 := hS.out.1.c 0 rfl; have x1 := hS.out.1.c 1 rfl; have x2 := hS.out.1.c 2 rfl)
            | (go_at_call 12; (with_reducible refine (S1.out _ B5).mono ?_); rintro eq wq ⟨rfl, hbq⟩; replace B5 := nextB B5 hbq; replace hT9 := hT9.next hbq; replace hS := Lib.hid (hS.out.next hbq); clear x0 x1 x2; have x0 := hS.out.1.c 0 rfl; have x1 := hS.out.1.c 1 rfl; have x2 := hS.out.1.c 2 rfl)
            | (go_at_call 12; (with_reducible refine (S3.out _ _ _ hT9 B5).mono ?_); rintro eq wq ⟨rfl, hbq⟩; replace B5 := nextB B5 hbq; replace hT9 := hT9.next hbq; replace hS := Lib.hid (hS.out.next hbq); clear x0 x1 x2; have x0 := hS.out.1.c 0 rfl; have x1 := hS.out.1.c 1 rfl; have x2 := hS.out.1.c 2 rfl)
            | (go_at_call 12; (with_reducible refine (S4.out _ B5).mono ?_); rintro eq wq ⟨rfl, hbq⟩; replace B5 := nextB B5 hbq; replace hT9 := hT9.next hbq; replace hS := Lib.hid (hS.out.next hbq); clear x0 x1 x2; have x0 := hS.out.1.c 0 rfl; have x1 := hS.out.1.c 1 rfl; have x2 := hS.out.1.c 2 rfl)
            | (go_at_call 12; replace B5 := nextB B5 (b1 wq (.cells (c3 x) 29)); replace hT9 := hT9.next (b1 wq (.cells (c3 x) 29)); replace hS := Lib.hid (hS.out.alloc (.cells (c3 x) 29)); refine (S2.out _ _ (trips_new (Blk.new wq 29 (c3 x))) B5).mono ?_; rintro eq wq ⟨rfl, hbq⟩; replace B5 := nextB B5 hbq; replace hT9 := hT9.next hbq; replace hS := Lib.hid (hS.out.next hbq); clear x0 x1 x2; have x0 := hS.out.1.c 0 rfl; have x1 := hS.out.1.c 1 rfl; have x2 := hS.out.1.c 2 rfl)
            | (go_at_call 7; (with_reducible refine (C.out _ B5).mono ?_); rintro eq wq ⟨rfl, hbq⟩; replace B5 := nextB B5 hbq))
          all_goals (go_ret; exact Ret.mk rfl B5)
  · skip
    go_wp2_with fail
    show _ ∧ _
    have hM4 : Hid (Blk (v0.alloc (.cells (c3 x) 29)) v0.heap.size 29 (c3 x)) := Lib.hid (Blk.new _ _ _)
    have hM4b : Hid (v0.heap.size < (v0.alloc (.cells (c3 x) 29)).heap.size) := Lib.hid (by rw [World.size_alloc]; omega)
    replace hS : Hid (BoxS w x (v0.alloc (.cells (c3 x) 29))) := Lib.hid (hS.out.alloc _)
    generalize v0.alloc (.cells (c3 x) 29) = v1 at *
    generalize v0.heap.size = b4 at *
    refine ⟨hS.out, ?_⟩
    try simp only [Act.put, List.setIfInBounds_toArray, List.set_cons_zero, List.set_cons_succ]
    refine anyS_one 0 (by kernel_rfl) rfl ?_
    go_wp2_with fail
    show _ ∧ _
    have hE : Hid ((v1.alloc (.cells #[] 29)).ownsRow (w.heap.size + 1) 29 3 (.slice (some ⟨v1.heap.size, 0, none⟩) 0 0) 0 (cT [])) := Lib.hid (own_empty v1 _ hS.out.size)
    have hEs : Hid (v1.heap.size < (v1.alloc (.cells #[] 29)).heap.size) := Lib.hid (by rw [World.size_alloc]; omega)
    replace hM4 : Hid (Blk (v1.alloc (.cells #[] 29)) b4 29 (c3 x)) := Lib.hid (hM4.out.alloc _)
    have hne : Hid (b4 ≠ v1.heap.size) := Lib.hid (by have := hM4b.out; omega)
    replace hS : Hid (BoxS w x (v1.alloc (.cells #[] 29))) := Lib.hid (hS.out.alloc _)
    generalize v1.alloc (.cells #[] 29) = v2 at *
    generalize v1.heap.size = bE at *
    refine ⟨hS.out, ?_⟩
    try simp only [Act.put, List.setIfInBounds_toArray, List.set_cons_zero, List.set_cons_succ]
    refine anyS_one 2 (by kernel_rfl) rfl ?_
    refine wpList_copyT rfl _ _ rfl (w.heap.size + 1) _ rfl 0 [] hE.out rfl a L.length c L rfl (hI.out _ hS.out.2) rfl hnil (by omega) hS.out.size ?_
    intro r2 v3 ho2 hg2
    replace hg2 : World.grownBy _ _ (Value.slice (some ⟨bE, 0, none⟩) 0 0).ownBlock := hg2
    change wpList _ _ _ [] (Act.put _ (some 53) _) _
    go_wp2_with fail
    show _ ∧ _
    replace hM4 : Hid (Blk v3 b4 29 (c3 x)) := Lib.hid ((hg2.block _ hM4.out.lt (by simp only [Value.ownBlock, ne_eq, Option.some.injEq]; exact hne.out)).trans hM4.out)
    replace hS := Lib.hid (hS.out.grown hE.out hg2)
    replace ho2 := Lib.hid ho2
    clear hg2 hE
    refine ⟨hS.out, ?_⟩
    try simp only [Act.put, List.setIfInBounds_toArray, List.set_cons_zero, List.set_cons_succ]
    refine anyS_one 5 (by kernel_rfl) rfl ?_
    refine wpList_copyT rfl _ _ rfl (w.heap.size + 1) _ rfl (0 + L.length) ([] ++ L) ho2.out (by simp) (some ⟨b4, 0, none⟩) 1 1 [x] rfl (trips_new hM4.out) rfl (fun h => by cases h) (by omega) hS.out.size ?_
    intro r5 v4 ho5 hg5
    change wpList _ _ _ [] (Act.put _ (some 56) _) _
    go_wp2_with fail
    show _ ∧ _
    replace hS := Lib.hid (hS.out.grown ho2.out hg5)
    rw [List.nil_append] at ho5
    obtain ⟨a9, c9, rfl, hc9, hT9, hn9⟩ := own_tripsA ho5 (by simp)
    replace ho5 := Lib.hid ho5
    clear ho2 hg5 hM4
    refine ⟨hS.out, ?_⟩
    try simp only [Act.put, List.setIfInBounds_toArray, List.set_cons_zero, List.set_cons_succ]
    refine anyS_one 6 (by kernel_rfl) rfl ?_
    go_wp2_with fail
    show _ ∧ _
    refine ⟨hS.out, ?_⟩
    try simp only [Act.put, List.setIfInBounds_toArray, List.set_cons_zero, List.set_cons_succ]
    refine anyS_end (by kernel_rfl) ?_
    have B5 := hS.out.2
    replace hS := Lib.hid hS.out
    have x0 := hS.out.1.c 0 rfl
    have x1 := hS.out.1.c 1 rfl
    have x2 := hS.out.1.c 2 rfl
    clear ho5 hc9 hn9
    replace hT9 := hT9
    rcases CS.out with ⟨rfl, rfl, rfl, rfl, rfl⟩ | ⟨hf, rfl, rfl, rfl⟩ | ⟨hf, he⟩
    all_goals
      try (have hf2 : (f == 0) = false := by rw [beq_eq_false_iff_ne]; exact hf)
      try (have he2 : (e == 0) = false := by rw [beq_eq_false_iff_ne]; exact he)
      cases p3
      · go_wp2_with (first
          | (go_at_call 11; (with_reducible refine (BL.out _ B5).mono ?_); rintro eq wq ⟨rfl, hbq⟩; replace B5 := nextB B5 hbq; replace hT9 := hT9.next hbq; replace hS := Lib.hid (hS.out.next hbq); clear x0 x1 x2; have x0 := hS.out.1.c 0 rfl; have x1 := hS.out.1.c 1 rfl; have x2 := hS.out.1.c 2 rfl)
          | (go_at_call 11; (with_reducible refine (BA.out _ _ _ hT9 B5).mono ?_); rintro eq wq ⟨rfl, hbq⟩; replace B5 := nextB B5 hbq; replace hT9 := hT9.next hbq; replace hS := Lib.hid (hS.out.next hbq); clear x0 x1 x2; have x0 := hS.out.1.c 0 rfl; have x1 := hS.out.1.c 1 rfl; have x2 := hS.out.1.c 2 rfl)
          | (go_at_call 12; (with_reducible refine (S1.out _ B5).mono ?_); rintro eq wq ⟨rfl, hbq⟩; replace B5 := nextB B5 hbq; replace hT9 := hT9.next hbq; replace hS := Lib.hid (hS.out.next hbq); clear x0 x1 x2; have x0 := hS.out.1.c 0 rfl; have x1 := hS.out.1.c 1 rfl; have x2 := hS.out.1.c 2 rfl)
          | (go_at_call 12; (with_reducible refine (S3.out _ _ _ hT9 B5).mono ?_); rintro eq wq ⟨rfl, hbq⟩; replace B5 := nextB B5 hbq; replace hT9 := hT9.next hbq; replace hS := Lib.hid (hS.out.next hbq); clear x0 x1 x2; have x0 := hS.out.1.c 0 rfl; have x1 := hS.out.1.c 1 rfl; have x2 := hS.out.1.c 2 rfl)
          | (go_at_call 12; (with_reducible refine (S4.out _ B5).mono ?_); rintro eq wq ⟨rfl, hbq⟩; replace B5 := nextB B5 hbq; replace hT9 := hT9.next hbq; replace hS := Lib.hid (hS.out.next hbq); clear x0 x1 x2; have x0 := hS.out.1.c 0 rfl; have x1 := hS.out.1.c 1 rfl; have x2 := hS.out.1.c 2 rfl)
          | (go_at_call 12; replace B5 := nextB B5 (b1 wq (.cells (c3 x) 29)); replace hT9 := hT9.next (b1 wq (.cells (c3 x) 29)); replace hS := Lib.hid (hS.out.alloc (.cells (c3 x) 29)); refine (S2.out _ _ (trips_new (Blk.new wq 29 (c3 x))) B5).mono ?_; rintro eq wq ⟨rfl, hbq⟩; replace B5 := nextB B5 hbq; replace hT9 := hT9.next hbq; replace hS := Lib.hid (hS.out.next hbq); clear x0 x1 x2; have x0 := hS.out.1.c 0 rfl; have x1 := hS.out.1.c 1 rfl; have x2 := hS.out.1.c 2 rfl)
          | (go_at_call 7; (with_reducible refine (C.out _ B5).mono ?_); rintro eq wq ⟨rfl, hbq⟩; replace B5 := nextB B5 hbq))
        all_goals (go_ret; exact Ret.mk rfl B5)
      · obtain rfl := C3.out rfl
        go_wp2_with (first
          | (go_at_call 11; (with_reducible refine (BL.out _ B5).mono ?_); rintro eq wq ⟨rfl, hbq⟩; replace B5 := nextB B5 hbq; replace hT9 := hT9.next hbq; replace hS := Lib.hid (hS.out.next hbq); clear x0 x1 x2; have x0 := hS.out.1.c 0 rfl; have x1 := hS.out.1.c 1 rfl; have x2 := hS.out.1.c 2 rfl)
          | (go_at_call 11; (with_reducible refine (BA.out _ _ _ hT9 B5).mono ?_); rintro eq wq ⟨rfl, hbq⟩; replace B5 := nextB B5 hbq; replace hT9 := hT9.next hbq; replace hS := Lib.hid (hS.out.next hbq); clear x0 x1 x2; have x0 := hS.out.1.c 0 rfl; have x1 := hS.out.1.c 1 rfl; have x2 := hS.out.1.c 2 rfl)
          | (go_at_call 12; (with_reducible refine (S1.out _ B5).mono ?_); rintro eq wq ⟨rfl, hbq⟩; replace B5 := nextB B5 hbq; replace hT9 := hT9.next hbq; replace hS := Lib.hid (hS.out.next hbq); clear x0 x1 x2; have x0 := hS.out.1.c 0 rfl; have x1 := hS.out.1.c 1 rfl; have x2 := hS.out.1.c 2 rfl)
          | (go_at_call 12; (with_reducible refine (S3.out _ _ _ hT9 B5).mono ?_); rintro eq wq ⟨rfl, hbq⟩; replace B5 := nextB B5 hbq; replace hT9 := hT9.next hbq; replace hS := Lib.hid (hS.out.next hbq); clear x0 x1 x2; have x0 := hS.out.1.c 0 rfl; have x1 := hS.out.1.c 1 rfl; have x2 := hS.out.1.c 2 rfl)
          | (go_at_call 12; (with_reducible refine (S4.out _ B5).mono ?_); rintro eq wq ⟨rfl, hbq⟩; replace B5 := nextB B5 hbq; replace hT9 := hT9.next hbq; replace hS := Lib.hid (hS.out.next hbq); clear x0 x1 x2; have x0 := hS.out.1.c 0 rfl; have x1 := hS.out.1.c 1 rfl; have x2 := hS.out.1.c 2 rfl)
          | (go_at_call 12; replace B5 := nextB B5 (b1 wq (.cells (c3 x) 29)); replace hT9 := hT9.next (b1 wq (.cells (c3 x) 29)); replace hS := Lib.hid (hS.out.alloc (.cells (c3 x) 29)); refine (S2.out _ _ (trips_new (Blk.new wq 29 (c3 x))) B5).mono ?_; rintro eq wq ⟨rfl, hbq⟩; replace B5 := nextB B5 hbq; replace hT9 := hT9.next hbq; replace hS := Lib.hid (hS.out.next hbq); clear x0 x1 x2; have x0 := hS.out.1.c 0 rfl; have x1 := hS.out.1.c 1 rfl; have x2 := hS.out.1.c 2 rfl)
          | (go_at_call 7; (with_reducible refine (C.out _ B5).mono ?_); rintro eq wq ⟨rfl, hbq⟩; replace B5 := nextB B5 hbq))
        all_goals (go_ret; exact Ret.mk rfl B5)
end Go.Proofs.YtmejahoodeeijaaDoor
