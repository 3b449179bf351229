/- BreedAho, walked. -/
import Derived.Test.YtmejahoodeeijaaGreatDoorNe
import Derived.Test.YtmejahoodeeijaaGreatDoorNb
import Derived.Test.YtmejahoodeeijaaGreatDoorHc
namespace Go.Proofs.YtmejahoodeeijaaGreatDoor
open Go Go.RowKit

theorem World_add0 (g : Nat) : Addr.add ⟨g, 0, none⟩ 0 = ⟨g, 0, none⟩ := by unfold Addr.add; split <;> simp_all
/-- Few, and triples of so many beasts? -/
def ahoOk (n : Int) (L : List T3) : Bool := !(decide (n < 1)) && !(decide (8 < n)) && lisE n L == 0
set_option maxRecDepth 100000 in
set_option maxHeartbeats 4000000 in
theorem aho_many (n : Int) (a : Option Addr) (l c : Nat) (s : List UInt8) (w : World) (hT : Tab w) (hf : (decide (l ≤ 100) && decide (s.length ≤ 100)) = false) :
    Calls Tryz.prog 8 #[.int .i64 n, .slice a l c, strV s] w (Ret (.bool true) w) := by
  have F := Lib.hid (fun W => few_any a l c s W)
  rw [hf] at F
  have C := Lib.hid (fun W (hW : Below w.heap.size w W) => alive_any W (hT.next hW))
  have B5 : Below w.heap.size w w := Below.refl _ _
  clear hT hf
  go_enter Tryz.func8, Tryz.ntmps8
  go_wp2_with (first
    | (go_at_call 14; (with_reducible refine (F.out _).mono ?_); rintro e2 w2 ⟨rfl, rfl⟩)
    | (go_at_call 15; (with_reducible refine (C.out _ B5).mono ?_); rintro eq wq ⟨rfl, hbq⟩; replace B5 := nextB B5 hbq))
  all_goals (go_ret; exact Ret.mk rfl B5)
set_option maxRecDepth 100000 in
set_option maxHeartbeats 4000000 in
theorem aho_bad (n : Int) (a : Option Addr) (l c : Nat) (L : List T3) (s : List UInt8) (w : World) (h : Trips w a L) (hl : L.length = l) (hT : Tab w) (hf : (decide (l ≤ 100) && decide (s.length ≤ 100)) = true) (hbad : ahoOk n L = false) :
    Calls Tryz.prog 8 #[.int .i64 n, .slice a l c, strV s] w (Ret (.bool true) w) := by
  have h100 : l ≤ 100 := by simp only [Bool.and_eq_true, decide_eq_true_eq] at hf; exact hf.1
  have F := Lib.hid (fun W => few_any a l c s W)
  rw [hf] at F
  have C := Lib.hid (fun W (hW : Below w.heap.size w W) => alive_any W (hT.next hW))
  have BL := fun W (hW : Below w.heap.size w W) => Build_any n a l c L W (h.next hW) hl (by omega) (hT.next hW)
  have KN := fun W (hW : Below w.heap.size w W) => Knot_any n a l c L W (h.next hW) hl (by omega) (hT.next hW)
  have R := Lib.hid (fun W (hW : Below w.heap.size w W) => refList_any n a l c L W (h.next hW) hl (by omega))
  have hm : memE n L ≠ 0 ∧ (numB n = true → lisE n L ≠ 0) := by
    rw [memE_lis]
    unfold ahoOk at hbad
    cases hn : numB n
    · simp
    · have hh := hn
      unfold numB at hh
      simp only [Bool.and_eq_true, decide_eq_true_eq] at hh
      rw [decide_eq_false (by omega), decide_eq_false (by omega)] at hbad
      simpa using hbad
  obtain ⟨hm, hlz⟩ := hm
  have eB : bldE n L = ([], memE n L) := by unfold bldE; rw [if_neg hm]
  have eK : kntE n L = (0, memE n L) := by unfold kntE; rw [if_neg hm]
  rw [eB] at BL
  rw [eK] at KN
  dsimp only at BL KN
  replace BL := Lib.hid BL
  replace KN := Lib.hid KN
  have hm1 : (memE n L != 0) = true := by rw [bne_iff_ne]; exact hm
  have hmz : (memE n L == 0) = false := by rw [beq_eq_false_iff_ne]; exact hm
  have B5 : Below w.heap.size w w := Below.refl _ _
  have EN := eqE_nil
  have EG := eqG_eql
  clear hT hf h hl hbad eB eK h100
  generalize memE n L = r at *
  by_cases h1 : n < 1
  · skip
    go_enter Tryz.func8, Tryz.ntmps8
    go_wp2_with (first
      | (go_at_call 14; (with_reducible refine (F.out _).mono ?_); rintro e2 w2 ⟨rfl, rfl⟩)
      | (go_at_call 25; (with_reducible refine (BL.out _ B5).mono ?_); rintro eq wq ⟨rfl, hbq⟩; replace B5 := nextB B5 hbq)
      | (go_at_call 27; (with_reducible refine (KN.out _ B5).mono ?_); rintro eq wq ⟨rfl, hbq⟩; replace B5 := nextB B5 hbq)
      | (go_at_call 15; (with_reducible refine (C.out _ B5).mono ?_); rintro eq wq ⟨rfl, hbq⟩; replace B5 := nextB B5 hbq))
    all_goals (go_ret; exact Ret.mk rfl B5)
  · by_cases h2 : 8 < n
    · skip
      go_enter Tryz.func8, Tryz.ntmps8
      go_wp2_with (first
        | (go_at_call 14; (with_reducible refine (F.out _).mono ?_); rintro e2 w2 ⟨rfl, rfl⟩)
        | (go_at_call 25; (with_reducible refine (BL.out _ B5).mono ?_); rintro eq wq ⟨rfl, hbq⟩; replace B5 := nextB B5 hbq)
        | (go_at_call 27; (with_reducible refine (KN.out _ B5).mono ?_); rintro eq wq ⟨rfl, hbq⟩; replace B5 := nextB B5 hbq)
        | (go_at_call 15; (with_reducible refine (C.out _ B5).mono ?_); rintro eq wq ⟨rfl, hbq⟩; replace B5 := nextB B5 hbq))
      all_goals (go_ret; exact Ret.mk rfl B5)
    · have hn : numB n = true := by unfold numB; simp only [Bool.and_eq_true, decide_eq_true_eq]; omega
      have hlz2 : (lisE n L != 0) = true := by rw [bne_iff_ne]; exact hlz hn
      clear hlz hn
      generalize lisE n L = z at *
      go_enter Tryz.func8, Tryz.ntmps8
      go_wp2_with (first
        | (go_at_call 14; (with_reducible refine (F.out _).mono ?_); rintro e2 w2 ⟨rfl, rfl⟩)
        | (go_at_call 25; (with_reducible refine (BL.out _ B5).mono ?_); rintro eq wq ⟨rfl, hbq⟩; replace B5 := nextB B5 hbq)
        | (go_at_call 27; (with_reducible refine (KN.out _ B5).mono ?_); rintro eq wq ⟨rfl, hbq⟩; replace B5 := nextB B5 hbq)
        | (go_at_call 37; (with_reducible refine (R.out _ B5).mono ?_); rintro eq wq ⟨rfl, hbq⟩; replace B5 := nextB B5 hbq)
        | (go_at_call 15; (with_reducible refine (C.out _ B5).mono ?_); rintro eq wq ⟨rfl, hbq⟩; replace B5 := nextB B5 hbq))
      all_goals (go_ret; exact Ret.mk rfl B5)
set_option maxRecDepth 100000 in
set_option maxHeartbeats 8000000 in
theorem aho_late (m : Nat) (a : Option Addr) (l c : Nat) (L : List T3) (s : List UInt8) (w : World) (h : Trips w a L) (hl : L.length = l) (hT : Tab w) (hf : (decide (l ≤ 100) && decide (s.length ≤ 100)) = true) (hM : Mem m L) (h60 : L.length ≤ 60) :
    Calls Tryz.prog 8 #[.int .i64 (m : Int), .slice a l c, strV s] w (Ret (.bool true) w) := by
  have F := Lib.hid (fun W => few_any a l c s W)
  rw [hf] at F
  have C := Lib.hid (fun W (hW : Below w.heap.size w W) => alive_any W (hT.next hW))
  have BL := fun W (hW : Below w.heap.size w W) => Build_any m a l c L W (h.next hW) hl (by omega) (hT.next hW)
  have KN := fun W (hW : Below w.heap.size w W) => Knot_any m a l c L W (h.next hW) hl (by omega) (hT.next hW)
  have R := fun W (hW : Below w.heap.size w W) => refList_any m a l c L W (h.next hW) hl (by omega)
  have S1 := fun W (hW : Below w.heap.size w W) => Shows_any m s a l c L W (h.next hW) hl (by omega) (hT.next hW)
  have hlis : lisE m L = 0 := by
    unfold lisE
    rw [if_neg (by omega), if_pos (List.all_eq_true.2 hM.tri)]
  rw [hlis] at R
  replace R := Lib.hid R
  have E1 := sho_err (n := m) (s := s) (L := L)
  have hm1 := hM.one
  have hm8 := hM.eight
  have n1 : ¬ (m : Int) < 1 := by omega
  have n2 : ¬ (8 : Int) < (m : Int) := by omega
  have B5 : Below w.heap.size w w := Below.refl _ _
  rcases aho_math s hM h60 with ⟨t, e1, e2, e3, e4⟩ | ⟨e1, ⟨k, e2, e3, hk9, hk2⟩, e4⟩
  · have S2 := fun W (hW : Below w.heap.size w W) => Shows_any m t a l c L W (h.next hW) hl (by omega) (hT.next hW)
    have I := Lib.hid (fun W (hW : Below w.heap.size w W) => IsTree_any m t W (hT.next hW))
    rw [e4] at I
    rw [e1] at BL
    rw [e2] at KN
    rw [e3] at S2
    dsimp only at BL KN S2
    replace BL := Lib.hid BL
    replace KN := Lib.hid KN
    replace S2 := Lib.hid S2
    clear e1 e2 e3 e4 hT hf h hl hM hlis h60
    generalize shoE m s L = X at *
    obtain ⟨p, q⟩ := X
    dsimp only at S1 E1
    cases p
    · replace S1 := Lib.hid S1
      clear E1
      go_enter Tryz.func8, Tryz.ntmps8
      go_wp2_with (first
        | (go_at_call 14; (with_reducible refine (F.out _).mono ?_); rintro e2 w2 ⟨rfl, rfl⟩)
        | (go_at_call 25; (with_reducible refine (BL.out _ B5).mono ?_); rintro eq wq ⟨rfl, hbq⟩; replace B5 := nextB B5 hbq)
        | (go_at_call 27; (with_reducible refine (KN.out _ B5).mono ?_); rintro eq wq ⟨rfl, hbq⟩; replace B5 := nextB B5 hbq)
        | (go_at_call 37; (with_reducible refine (R.out _ B5).mono ?_); rintro eq wq ⟨rfl, hbq⟩; replace B5 := nextB B5 hbq)
        | (go_at_call 23; (with_reducible refine (S1.out _ B5).mono ?_); rintro eq wq ⟨rfl, hbq⟩; replace B5 := nextB B5 hbq)
        | (go_at_call 23; (with_reducible refine (S2.out _ B5).mono ?_); rintro eq wq ⟨rfl, hbq⟩; replace B5 := nextB B5 hbq)
        | (go_at_call 16; (with_reducible refine (I.out _ B5).mono ?_); rintro eq wq ⟨rfl, hbq⟩; replace B5 := nextB B5 hbq)
        | (go_at_call 15; (with_reducible refine (C.out _ B5).mono ?_); rintro eq wq ⟨rfl, hbq⟩; replace B5 := nextB B5 hbq))
      all_goals (go_ret; exact Ret.mk rfl B5)
    · obtain rfl := E1 rfl
      replace S1 := Lib.hid S1
      clear E1
      go_enter Tryz.func8, Tryz.ntmps8
      go_wp2_with (first
        | (go_at_call 14; (with_reducible refine (F.out _).mono ?_); rintro e2 w2 ⟨rfl, rfl⟩)
        | (go_at_call 25; (with_reducible refine (BL.out _ B5).mono ?_); rintro eq wq ⟨rfl, hbq⟩; replace B5 := nextB B5 hbq)
        | (go_at_call 27; (with_reducible refine (KN.out _ B5).mono ?_); rintro eq wq ⟨rfl, hbq⟩; replace B5 := nextB B5 hbq)
        | (go_at_call 37; (with_reducible refine (R.out _ B5).mono ?_); rintro eq wq ⟨rfl, hbq⟩; replace B5 := nextB B5 hbq)
        | (go_at_call 23; (with_reducible refine (S1.out _ B5).mono ?_); rintro eq wq ⟨rfl, hbq⟩; replace B5 := nextB B5 hbq)
        | (go_at_call 23; (with_reducible refine (S2.out _ B5).mono ?_); rintro eq wq ⟨rfl, hbq⟩; replace B5 := nextB B5 hbq)
        | (go_at_call 16; (with_reducible refine (I.out _ B5).mono ?_); rintro eq wq ⟨rfl, hbq⟩; replace B5 := nextB B5 hbq)
        | (go_at_call 15; (with_reducible refine (C.out _ B5).mono ?_); rintro eq wq ⟨rfl, hbq⟩; replace B5 := nextB B5 hbq))
      all_goals (go_ret; exact Ret.mk rfl B5)
  · have J := fun W (hW : Below w.heap.size w W) => Joined_any m k a l c L W (h.next hW) hl (by omega) (hT.next hW)
    rw [e1] at BL
    rw [e2] at KN
    rw [e3] at J
    rw [e4] at S1
    dsimp only at BL KN
    replace BL := Lib.hid BL
    replace KN := Lib.hid KN
    replace S1 := Lib.hid S1
    replace J := Lib.hid J
    have k0 : 0 < k := Nat.pos_of_ne_zero fun e => by subst e; exact hk2 rfl
    have ks : IntKind.i64.wrap ((k : Int) - 1) = ((k - 1 : Nat) : Int) := by rw [IntWalk.i64_in _ (by omega)]; omega
    have ka := i64_and_nat k (k - 1) (by omega) (by omega)
    have kn : (((k &&& (k - 1) : Nat) : Int) != 0) = true := by rw [bne_iff_ne]; omega
    generalize k &&& (k - 1) = z at *
    clear e1 e2 e3 e4 hT hf h hl hM hlis h60 E1 hk2
    go_enter Tryz.func8, Tryz.ntmps8
    go_wp2_with (first
      | (go_at_call 14; (with_reducible refine (F.out _).mono ?_); rintro e2 w2 ⟨rfl, rfl⟩)
      | (go_at_call 25; (with_reducible refine (BL.out _ B5).mono ?_); rintro eq wq ⟨rfl, hbq⟩; replace B5 := nextB B5 hbq)
      | (go_at_call 27; (with_reducible refine (KN.out _ B5).mono ?_); rintro eq wq ⟨rfl, hbq⟩; replace B5 := nextB B5 hbq)
      | (go_at_call 37; (with_reducible refine (R.out _ B5).mono ?_); rintro eq wq ⟨rfl, hbq⟩; replace B5 := nextB B5 hbq)
      | (go_at_call 23; (with_reducible refine (S1.out _ B5).mono ?_); rintro eq wq ⟨rfl, hbq⟩; replace B5 := nextB B5 hbq)
      | (go_at_call 29; (with_reducible refine (J.out _ B5).mono ?_); rintro eq wq ⟨vq, rfl, hoq, hbq⟩; replace B5 := nextB B5 hbq; replace hoq : World.ownsRow _ _ _ _ vq 1 (lN [k]) := hoq; obtain ⟨g, cap, rfl⟩ := own_pos hoq (by decide); have hcq := hoq.cells (g := g) rfl 0 _ (show (lN [k])[0]? = some _ from rfl); rw [World_add0] at hcq)
      | (go_at_call 15; (with_reducible refine (C.out _ B5).mono ?_); rintro eq wq ⟨rfl, hbq⟩; replace B5 := nextB B5 hbq))
    all_goals (go_ret; exact Ret.mk rfl B5)
end Go.Proofs.YtmejahoodeeijaaGreatDoor
