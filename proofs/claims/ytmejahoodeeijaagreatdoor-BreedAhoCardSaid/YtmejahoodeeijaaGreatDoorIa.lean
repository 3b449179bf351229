/- Layer 5, by the program: shows. -/
import Derived.Test.YtmejahoodeeijaaGreatDoorHa
import Derived.Test.YtmejahoodeeijaaGreatDoorAr
namespace Go.Proofs.YtmejahoodeeijaaGreatDoor
open Go Go.RowKit

/-- Does the tree show the triple? -/
def shoB (t : Tr) (x : T3) : Bool := !(inB (pw x.2.2.toNat) (famOf (abOf x) t))
theorem famOf_lt {A : Nat → Prop} {w : World} (s : Nat) : ∀ (t : Tr) (v : Value), TreeV A w t v → famOf s t < 512 := by
  intro t
  induction t using Tr.ind with
  | h1 b =>
    intro v h
    simp only [TreeV] at h
    exact pw_lt (k := 9) h.2
  | h2 ks ih =>
    intro v h
    simp only [TreeV] at h
    obtain ⟨blk, off, c, _, hs, _, _, hk⟩ := h
    rw [treesV_iff] at hk
    simp only [famOf]
    have : ∀ ls : List Tr, (∀ t ∈ ls, t ∈ ks) → famL s (setL ks) ls < 512 := by
      intro ls
      induction ls with
      | nil => intro _; exact hs
      | cons k ls ih2 =>
        intro hl
        simp only [famL]
        split
        · obtain ⟨i, hi, e⟩ := List.mem_iff_getElem.1 (hl k (by simp))
          obtain ⟨v0, _, hv0⟩ := hk i hi
          exact ih k (hl k (by simp)) v0 (by rw [← e]; exact hv0)
        · exact ih2 fun t ht => hl t (by simp [ht])
    exact this ks fun _ h => h
set_option maxRecDepth 100000 in
set_option maxHeartbeats 8000000 in
theorem shows_any (A : Nat → Prop) (t : Tr) (v : Value) (x y z : Nat) (hx : x < 9) (hy : y < 9) (hz : z < 9) (w : World) (h : TreeV A w t v) :
    Calls Tryz.prog 53 #[v, .agg #[.int .i64 (x : Int), .int .i64 (y : Int), .int .i64 (z : Int)]] w (Ret (.bool (shoB t ((x : Int), (y : Int), (z : Int)))) w) := by
  have hf := famOf_lt (pw x ||| pw y) t v h
  have hxy : pw x ||| pw y < 512 := Nat.or_lt_two_pow (n := 9) (pw_lt (k := 9) hx) (pw_lt (k := 9) hy)
  have F := Lib.hid (fun W (hW : Below w.heap.size w W) => familyOf_any t A v (pw x ||| pw y) W (h.next hW) hxy)
  have H := Lib.hid (fun W => has_any (famOf (pw x ||| pw y) t) (pw z) hf (pw_lt (k := 9) hz) W)
  show Calls Tryz.prog _ _ w (Ret (.bool (!(inB (pw z) (famOf (pw x ||| pw y) t)))) w)
  have S2 := Lib.hid (fun W b hB => setWith2 W b 2 x y hB hx hy)
  have S1 := Lib.hid (fun W b hB => setWith1 W b 1 z hB hz)
  generalize inB (pw z) (famOf (pw x ||| pw y) t) = r at *
  generalize famOf (pw x ||| pw y) t = fo at *
  generalize pw x ||| pw y = q at *
  generalize pw z = pz at *
  have hA := Blk.new w 52 #[.int .i64 (x : Int), .int .i64 (y : Int), .int .i64 (z : Int)]
  have bA := b1 w (.cells #[.int .i64 (x : Int), .int .i64 (y : Int), .int .i64 (z : Int)] 52)
  clear h
  go_enter Tryz.func53, Tryz.ntmps53
  go_wp2
  generalize w.alloc (.cells #[.int .i64 (x : Int), .int .i64 (y : Int), .int .i64 (z : Int)] 52) = w1 at *
  refine wp_region_S (fun W => Blk W w.heap.size 52 #[.int .i64 (x : Int), .int .i64 (y : Int), .int .i64 (z : Int)] ∧ Below w.heap.size w W) (by kernel_rfl) ?_
  show wpAnyS _ _ _ _ _ (14 + 1) _ _ _
  have hS : Blk w1.drew w.heap.size 52 #[.int .i64 (x : Int), .int .i64 (y : Int), .int .i64 (z : Int)] ∧ Below w.heap.size w w1.drew := ⟨hA, bA.drew⟩
  clear hA bA
  generalize w1.drew = v0 at *
  have PU : ∀ W, (Blk W w.heap.size 52 #[.int .i64 (x : Int), .int .i64 (y : Int), .int .i64 (z : Int)] ∧ Below w.heap.size w W) → W.cell? ⟨w.heap.size, 0, none⟩ = some (.int .i64 (x : Int)) ∧ W.cell? ⟨w.heap.size, 1, none⟩ = some (.int .i64 (y : Int)) ∧ W.cell? ⟨w.heap.size, 2, none⟩ = some (.int .i64 (z : Int)) := fun W hW => ⟨hW.1.c 0 rfl, hW.1.c 1 rfl, hW.1.c 2 rfl⟩
  replace PU := Lib.hid PU
  refine anyS_pure 0 v rfl (by kernel_rfl) (by kernel_rfl) (by kernel_rfl) (fun _ _ _ h => h) (by rfl) (fun W hW => by go_simp) hS ?_
  refine anyS_pure 1 (.pointer (some ⟨w.heap.size, 0, none⟩)) rfl (by kernel_rfl) (by kernel_rfl) (by kernel_rfl) (fun _ _ _ h => h) (by rfl) (fun W hW => by go_simp) hS ?_
  refine anyS_pure 2 (.int .i64 (x : Int)) rfl (by kernel_rfl) (by kernel_rfl) (by kernel_rfl) (fun _ _ _ h => h) (by rfl) (fun W hW => by obtain ⟨y0, y1, y2⟩ := PU.out W hW; go_simp) hS ?_
  refine anyS_pure 3 (.pointer (some ⟨w.heap.size, 1, none⟩)) rfl (by kernel_rfl) (by kernel_rfl) (by kernel_rfl) (fun _ _ _ h => h) (by rfl) (fun W hW => by go_simp) hS ?_
  refine anyS_pure 4 (.int .i64 (y : Int)) rfl (by kernel_rfl) (by kernel_rfl) (by kernel_rfl) (fun _ _ _ h => h) (by rfl) (fun W hW => by obtain ⟨y0, y1, y2⟩ := PU.out W hW; go_simp) hS ?_
  refine anyS_pure 8 (.pointer (some ⟨w.heap.size, 2, none⟩)) rfl (by kernel_rfl) (by kernel_rfl) (by kernel_rfl) (fun _ _ _ h => h) (by rfl) (fun W hW => by go_simp) hS ?_
  refine anyS_pure 9 (.int .i64 (z : Int)) rfl (by kernel_rfl) (by kernel_rfl) (by kernel_rfl) (fun _ _ _ h => h) (by rfl) (fun W hW => by obtain ⟨y0, y1, y2⟩ := PU.out W hW; go_simp) hS ?_
  try simp only [Act.put, List.setIfInBounds_toArray]
  replace hS := Lib.hid hS
  clear PU hf hxy hx hy hz
  refine anyS_two 5 10 (by kernel_rfl) rfl rfl ?_ ?_
  · skip
    go_wp2_with fail
    show _ ∧ _
    have hB1 := Lib.hid (Blk.new v0 3 #[.int .i64 (x : Int), .int .i64 (y : Int)])
    replace hS : Hid (Blk (v0.alloc (.cells #[.int .i64 (x : Int), .int .i64 (y : Int)] 3)) w.heap.size 52 #[.int .i64 (x : Int), .int .i64 (y : Int), .int .i64 (z : Int)] ∧ Below w.heap.size w (v0.alloc (.cells #[.int .i64 (x : Int), .int .i64 (y : Int)] 3))) := Lib.hid ⟨hS.out.1.alloc _, nextB hS.out.2 (b1 _ _)⟩
    generalize v0.alloc (.cells #[.int .i64 (x : Int), .int .i64 (y : Int)] 3) = v1 at *
    refine ⟨hS.out, ?_⟩
    try simp only [Act.put, List.setIfInBounds_toArray, List.set_cons_zero, List.set_cons_succ]
    refine anyS_two 6 10 (by kernel_rfl) rfl rfl ?_ ?_
    · skip
      go_wp2_with (go_at_call 48; (with_reducible refine (S2.out _ _ hB1.out).mono ?_); rintro e wq ⟨rfl, rfl⟩)
      show _ ∧ _
      refine ⟨hS.out, ?_⟩
      clear hB1
      try simp only [Act.put, List.setIfInBounds_toArray, List.set_cons_zero, List.set_cons_succ]
      refine anyS_two 7 10 (by kernel_rfl) rfl rfl ?_ ?_
      · skip
        go_wp2_with (go_at_call 47; (with_reducible refine (F.out _ hS.out.2).mono ?_); rintro e v3 ⟨rfl, hb3⟩)
        show _ ∧ _
        replace hS : Hid (Blk v3 w.heap.size 52 #[.int .i64 (x : Int), .int .i64 (y : Int), .int .i64 (z : Int)] ∧ Below w.heap.size w v3) := Lib.hid ⟨hS.out.1.ext hb3, nextB hS.out.2 hb3⟩
        clear hb3
        refine ⟨hS.out, ?_⟩
        try simp only [Act.put, List.setIfInBounds_toArray, List.set_cons_zero, List.set_cons_succ]
        refine anyS_one 10 (by kernel_rfl) rfl ?_
        go_wp2_with fail
        show _ ∧ _
        have hB2 := Lib.hid (Blk.new v3 3 #[.int .i64 (z : Int)])
        replace hS : Hid (Blk (v3.alloc (.cells #[.int .i64 (z : Int)] 3)) w.heap.size 52 #[.int .i64 (x : Int), .int .i64 (y : Int), .int .i64 (z : Int)] ∧ Below w.heap.size w (v3.alloc (.cells #[.int .i64 (z : Int)] 3))) := Lib.hid ⟨hS.out.1.alloc _, nextB hS.out.2 (b1 _ _)⟩
        generalize v3.alloc (.cells #[.int .i64 (z : Int)] 3) = v4 at *
        refine ⟨hS.out, ?_⟩
        try simp only [Act.put, List.setIfInBounds_toArray, List.set_cons_zero, List.set_cons_succ]
        refine anyS_one 11 (by kernel_rfl) rfl ?_
        go_wp2_with (go_at_call 48; (with_reducible refine (S1.out _ _ hB2.out).mono ?_); rintro e wq ⟨rfl, rfl⟩)
        show _ ∧ _
        refine ⟨hS.out, ?_⟩
        clear hB2
        try simp only [Act.put, List.setIfInBounds_toArray, List.set_cons_zero, List.set_cons_succ]
        refine anyS_one 12 (by kernel_rfl) rfl ?_
        go_wp2_with (go_at_call 76; (with_reducible refine (H.out _).mono ?_); rintro e wq ⟨rfl, rfl⟩)
        show _ ∧ _
        refine ⟨hS.out, ?_⟩
        try simp only [Act.put, List.setIfInBounds_toArray, List.set_cons_zero, List.set_cons_succ]
        refine anyS_one 13 (by kernel_rfl) rfl ?_
        go_wp2_with fail
        show _ ∧ _
        refine ⟨hS.out, ?_⟩
        try simp only [Act.put, List.setIfInBounds_toArray, List.set_cons_zero, List.set_cons_succ]
        refine anyS_one 14 (by kernel_rfl) rfl ?_
        go_wp2_with fail
        show _ ∧ _
        refine ⟨hS.out, ?_⟩
        try simp only [Act.put, List.setIfInBounds_toArray, List.set_cons_zero, List.set_cons_succ]
        refine anyS_end (by kernel_rfl) ?_
        have hS2 := Lib.hid hS.out.2
        go_wp2_with fail
        go_ret
        exact Ret.mk rfl hS2.out
      · skip
        go_wp2_with fail
        show _ ∧ _
        have hB2 := Lib.hid (Blk.new v1 3 #[.int .i64 (z : Int)])
        replace hS : Hid (Blk (v1.alloc (.cells #[.int .i64 (z : Int)] 3)) w.heap.size 52 #[.int .i64 (x : Int), .int .i64 (y : Int), .int .i64 (z : Int)] ∧ Below w.heap.size w (v1.alloc (.cells #[.int .i64 (z : Int)] 3))) := Lib.hid ⟨hS.out.1.alloc _, nextB hS.out.2 (b1 _ _)⟩
        generalize v1.alloc (.cells #[.int .i64 (z : Int)] 3) = v3 at *
        refine ⟨hS.out, ?_⟩
        try simp only [Act.put, List.setIfInBounds_toArray, List.set_cons_zero, List.set_cons_succ]
        refine anyS_one 7 (by kernel_rfl) rfl ?_
        go_wp2_with (go_at_call 47; (with_reducible refine (F.out _ hS.out.2).mono ?_); rintro e v4 ⟨rfl, hb3⟩)
        show _ ∧ _
        replace hS : Hid (Blk v4 w.heap.size 52 #[.int .i64 (x : Int), .int .i64 (y : Int), .int .i64 (z : Int)] ∧ Below w.heap.size w v4) := Lib.hid ⟨hS.out.1.ext hb3, nextB hS.out.2 hb3⟩
        replace hB2 := Lib.hid (hB2.out.ext hb3)
        clear hb3
        refine ⟨hS.out, ?_⟩
        try simp only [Act.put, List.setIfInBounds_toArray, List.set_cons_zero, List.set_cons_succ]
        refine anyS_one 11 (by kernel_rfl) rfl ?_
        go_wp2_with (go_at_call 48; (with_reducible refine (S1.out _ _ hB2.out).mono ?_); rintro e wq ⟨rfl, rfl⟩)
        show _ ∧ _
        refine ⟨hS.out, ?_⟩
        clear hB2
        try simp only [Act.put, List.setIfInBounds_toArray, List.set_cons_zero, List.set_cons_succ]
        refine anyS_one 12 (by kernel_rfl) rfl ?_
        go_wp2_with (go_at_call 76; (with_reducible refine (H.out _).mono ?_); rintro e wq ⟨rfl, rfl⟩)
        show _ ∧ _
        refine ⟨hS.out, ?_⟩
        try simp only [Act.put, List.setIfInBounds_toArray, List.set_cons_zero, List.set_cons_succ]
        refine anyS_one 13 (by kernel_rfl) rfl ?_
        go_wp2_with fail
        show _ ∧ _
        refine ⟨hS.out, ?_⟩
        try simp only [Act.put, List.setIfInBounds_toArray, List.set_cons_zero, List.set_cons_succ]
        refine anyS_one 14 (by kernel_rfl) rfl ?_
        go_wp2_with fail
        show _ ∧ _
        refine ⟨hS.out, ?_⟩
        try simp only [Act.put, List.setIfInBounds_toArray, List.set_cons_zero, List.set_cons_succ]
        refine anyS_end (by kernel_rfl) ?_
        have hS2 := Lib.hid hS.out.2
        go_wp2_with fail
        go_ret
        exact Ret.mk rfl hS2.out
    · skip
      go_wp2_with fail
      show _ ∧ _
      have hB2 := Lib.hid (Blk.new v1 3 #[.int .i64 (z : Int)])
      replace hS : Hid (Blk (v1.alloc (.cells #[.int .i64 (z : Int)] 3)) w.heap.size 52 #[.int .i64 (x : Int), .int .i64 (y : Int), .int .i64 (z : Int)] ∧ Below w.heap.size w (v1.alloc (.cells #[.int .i64 (z : Int)] 3))) := Lib.hid ⟨hS.out.1.alloc _, nextB hS.out.2 (b1 _ _)⟩
      replace hB1 := Lib.hid (hB1.out.alloc (.cells #[.int .i64 (z : Int)] 3))
      generalize v1.alloc (.cells #[.int .i64 (z : Int)] 3) = v2 at *
      refine ⟨hS.out, ?_⟩
      try simp only [Act.put, List.setIfInBounds_toArray, List.set_cons_zero, List.set_cons_succ]
      refine anyS_one 6 (by kernel_rfl) rfl ?_
      go_wp2_with (go_at_call 48; (with_reducible refine (S2.out _ _ hB1.out).mono ?_); rintro e wq ⟨rfl, rfl⟩)
      show _ ∧ _
      refine ⟨hS.out, ?_⟩
      clear hB1
      try simp only [Act.put, List.setIfInBounds_toArray, List.set_cons_zero, List.set_cons_succ]
      refine anyS_one 7 (by kernel_rfl) rfl ?_
      go_wp2_with (go_at_call 47; (with_reducible refine (F.out _ hS.out.2).mono ?_); rintro e v4 ⟨rfl, hb3⟩)
      show _ ∧ _
      replace hS : Hid (Blk v4 w.heap.size 52 #[.int .i64 (x : Int), .int .i64 (y : Int), .int .i64 (z : Int)] ∧ Below w.heap.size w v4) := Lib.hid ⟨hS.out.1.ext hb3, nextB hS.out.2 hb3⟩
      replace hB2 := Lib.hid (hB2.out.ext hb3)
      clear hb3
      refine ⟨hS.out, ?_⟩
      try simp only [Act.put, List.setIfInBounds_toArray, List.set_cons_zero, List.set_cons_succ]
      refine anyS_one 11 (by kernel_rfl) rfl ?_
      go_wp2_with (go_at_call 48; (with_reducible refine (S1.out _ _ hB2.out).mono ?_); rintro e wq ⟨rfl, rfl⟩)
      show _ ∧ _
      refine ⟨hS.out, ?_⟩
      clear hB2
      try simp only [Act.put, List.setIfInBounds_toArray, List.set_cons_zero, List.set_cons_succ]
      refine anyS_one 12 (by kernel_rfl) rfl ?_
      go_wp2_with (go_at_call 76; (with_reducible refine (H.out _).mono ?_); rintro e wq ⟨rfl, rfl⟩)
      show _ ∧ _
      refine ⟨hS.out, ?_⟩
      try simp only [Act.put, List.setIfInBounds_toArray, List.set_cons_zero, List.set_cons_succ]
      refine anyS_one 13 (by kernel_rfl) rfl ?_
      go_wp2_with fail
      show _ ∧ _
      refine ⟨hS.out, ?_⟩
      try simp only [Act.put, List.setIfInBounds_toArray, List.set_cons_zero, List.set_cons_succ]
      refine anyS_one 14 (by kernel_rfl) rfl ?_
      go_wp2_with fail
      show _ ∧ _
      refine ⟨hS.out, ?_⟩
      try simp only [Act.put, List.setIfInBounds_toArray, List.set_cons_zero, List.set_cons_succ]
      refine anyS_end (by kernel_rfl) ?_
      have hS2 := Lib.hid hS.out.2
      go_wp2_with fail
      go_ret
      exact Ret.mk rfl hS2.out
  · skip
    go_wp2_with fail
    show _ ∧ _
    have hB2 := Lib.hid (Blk.new v0 3 #[.int .i64 (z : Int)])
    replace hS : Hid (Blk (v0.alloc (.cells #[.int .i64 (z : Int)] 3)) w.heap.size 52 #[.int .i64 (x : Int), .int .i64 (y : Int), .int .i64 (z : Int)] ∧ Below w.heap.size w (v0.alloc (.cells #[.int .i64 (z : Int)] 3))) := Lib.hid ⟨hS.out.1.alloc _, nextB hS.out.2 (b1 _ _)⟩
    generalize v0.alloc (.cells #[.int .i64 (z : Int)] 3) = v1 at *
    refine ⟨hS.out, ?_⟩
    try simp only [Act.put, List.setIfInBounds_toArray, List.set_cons_zero, List.set_cons_succ]
    refine anyS_one 5 (by kernel_rfl) rfl ?_
    go_wp2_with fail
    show _ ∧ _
    have hB1 := Lib.hid (Blk.new v1 3 #[.int .i64 (x : Int), .int .i64 (y : Int)])
    replace hS : Hid (Blk (v1.alloc (.cells #[.int .i64 (x : Int), .int .i64 (y : Int)] 3)) w.heap.size 52 #[.int .i64 (x : Int), .int .i64 (y : Int), .int .i64 (z : Int)] ∧ Below w.heap.size w (v1.alloc (.cells #[.int .i64 (x : Int), .int .i64 (y : Int)] 3))) := Lib.hid ⟨hS.out.1.alloc _, nextB hS.out.2 (b1 _ _)⟩
    replace hB2 := Lib.hid (hB2.out.alloc (.cells #[.int .i64 (x : Int), .int .i64 (y : Int)] 3))
    generalize v1.alloc (.cells #[.int .i64 (x : Int), .int .i64 (y : Int)] 3) = v2 at *
    refine ⟨hS.out, ?_⟩
    try simp only [Act.put, List.setIfInBounds_toArray, List.set_cons_zero, List.set_cons_succ]
    refine anyS_one 6 (by kernel_rfl) rfl ?_
    go_wp2_with (go_at_call 48; (with_reducible refine (S2.out _ _ hB1.out).mono ?_); rintro e wq ⟨rfl, rfl⟩)
    show _ ∧ _
    refine ⟨hS.out, ?_⟩
    clear hB1
    try simp only [Act.put, List.setIfInBounds_toArray, List.set_cons_zero, List.set_cons_succ]
    refine anyS_one 7 (by kernel_rfl) rfl ?_
    go_wp2_with (go_at_call 47; (with_reducible refine (F.out _ hS.out.2).mono ?_); rintro e v4 ⟨rfl, hb3⟩)
    show _ ∧ _
    replace hS : Hid (Blk v4 w.heap.size 52 #[.int .i64 (x : Int), .int .i64 (y : Int), .int .i64 (z : Int)] ∧ Below w.heap.size w v4) := Lib.hid ⟨hS.out.1.ext hb3, nextB hS.out.2 hb3⟩
    replace hB2 := Lib.hid (hB2.out.ext hb3)
    clear hb3
    refine ⟨hS.out, ?_⟩
    try simp only [Act.put, List.setIfInBounds_toArray, List.set_cons_zero, List.set_cons_succ]
    refine anyS_one 11 (by kernel_rfl) rfl ?_
    go_wp2_with (go_at_call 48; (with_reducible refine (S1.out _ _ hB2.out).mono ?_); rintro e wq ⟨rfl, rfl⟩)
    show _ ∧ _
    refine ⟨hS.out, ?_⟩
    clear hB2
    try simp only [Act.put, List.setIfInBounds_toArray, List.set_cons_zero, List.set_cons_succ]
    refine anyS_one 12 (by kernel_rfl) rfl ?_
    go_wp2_with (go_at_call 76; (with_reducible refine (H.out _).mono ?_); rintro e wq ⟨rfl, rfl⟩)
    show _ ∧ _
    refine ⟨hS.out, ?_⟩
    try simp only [Act.put, List.setIfInBounds_toArray, List.set_cons_zero, List.set_cons_succ]
    refine anyS_one 13 (by kernel_rfl) rfl ?_
    go_wp2_with fail
    show _ ∧ _
    refine ⟨hS.out, ?_⟩
    try simp only [Act.put, List.setIfInBounds_toArray, List.set_cons_zero, List.set_cons_succ]
    refine anyS_one 14 (by kernel_rfl) rfl ?_
    go_wp2_with fail
    show _ ∧ _
    refine ⟨hS.out, ?_⟩
    try simp only [Act.put, List.setIfInBounds_toArray, List.set_cons_zero, List.set_cons_succ]
    refine anyS_end (by kernel_rfl) ?_
    have hS2 := Lib.hid hS.out.2
    go_wp2_with fail
    go_ret
    exact Ret.mk rfl hS2.out
end Go.Proofs.YtmejahoodeeijaaGreatDoor
