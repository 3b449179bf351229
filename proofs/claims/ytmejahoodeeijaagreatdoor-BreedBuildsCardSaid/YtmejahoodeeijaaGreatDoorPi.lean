/- BreedBuilds, walked. -/
import Derived.Test.YtmejahoodeeijaaGreatDoorPh
import Derived.Test.YtmejahoodeeijaaGreatDoorHc
namespace Go.Proofs.YtmejahoodeeijaaGreatDoor
open Go Go.RowKit

theorem own_mt (W : World) (base : Nat) (h : base ≤ W.heap.size) : (W.alloc (.cells #[] 52)).ownsRow base 52 3 (.slice (some ⟨W.heap.size, 0, none⟩) 0 0) 0 (cT []) := World.ownsRow_made W #[] 0 h (by decide) rfl
theorem joiE_len (n : Int) (L : List T3) (x : Int) : (joiE n L x).1.length ≤ 9 := by
  unfold joiE
  split
  · rename_i h0
    obtain ⟨m, rfl, h1, h8, _, _⟩ := memE_ok h0
    rw [Int.toNat_natCast]
    split
    · rename_i hs
      unfold stB at hs
      simp only [Bool.and_eq_true, decide_eq_true_eq] at hs
      have := pw_mono (k := 8) h8
      have h256 : pw 8 = 256 := rfl
      dsimp only
      unfold partsL sortN
      rw [List.length_mergeSort]
      exact join_len (by omega) L
    · exact Nat.zero_le _
  · exact Nat.zero_le _
theorem neS (s : List UInt8) (W : World) : (binOp .neq 9 (strV s) (strV s)).run Tryz.prog W = .ok (.bool false) W := by
  unfold strV
  go_simp
theorem eqG_neS (o1 o2 : Operand) (s t : List UInt8) (W : World) : (eqGuard .neq 9 o1 o2 (strV s) (strV t)).run Tryz.prog W = .ok () W := eqG_neq o1 o2 s ⟨t.toArray⟩ W
set_option maxRecDepth 100000 in
set_option maxHeartbeats 4000000 in
theorem builds_any (n : Int) (a : Option Addr) (l c : Nat) (L : List T3) (x : Int) (w : World) (h : Trips w a L) (hl : L.length = l) (_ : l ≤ c) (hnil : a = none → c = 0) (hT : Tab w) :
    Calls Tryz.prog 5 #[.int .i64 n, .slice a l c, .int .i64 x] w (Ret (.bool true) w) := by
  have F : ∀ W, Calls Tryz.prog 14 #[.slice a l c, .string ⟨#[]⟩] W (Only (.bool (decide (l ≤ 100) && decide (([] : List UInt8).length ≤ 100))) W) := fun W => few_any a l c [] W
  have F0 : (decide (l ≤ 100) && decide (([] : List UInt8).length ≤ 100)) = decide (l ≤ 100) := by simp
  rw [F0] at F
  have C := Lib.hid (fun W (hW : Below w.heap.size w W) => alive_any W (hT.next hW))
  have B5 : Below w.heap.size w w := Below.refl _ _
  by_cases h100 : l ≤ 100
  · rw [decide_eq_true h100] at F
    replace F := Lib.hid F
    have hI := Lib.hid (fun W (hW : Below w.heap.size w W) => h.next hW)
    have B1 := Lib.hid (fun W a7 c7 (h7 : Trips W a7 L) (hW : Below w.heap.size w W) => Build_any n a7 l c7 L W h7 hl (by omega) (hT.next hW))
    have B2 := Lib.hid (fun W (hW : Below w.heap.size w W) => refBuildTop_any n a l c L W (h.next hW) hl (by omega))
    have K1 := Lib.hid (fun W a7 c7 (h7 : Trips W a7 L) (hW : Below w.heap.size w W) => Knot_any n a7 l c7 L W h7 hl (by omega) (hT.next hW))
    have K2 := Lib.hid (fun W (hW : Below w.heap.size w W) => refKnot_any n a l c L W (h.next hW) hl (by omega))
    have J1 := Lib.hid (fun W a7 c7 (h7 : Trips W a7 L) (hW : Below w.heap.size w W) => Joined_any n x a7 l c7 L W h7 hl (by omega) (hT.next hW))
    have J2 := Lib.hid (fun W (hW : Below w.heap.size w W) => refJoined_any n x a l c L W (h.next hW) hl (by omega))
    have SM := Lib.hid (fun W a7 c7 (h7 : Trips W a7 L) (hW : Below w.heap.size w W) => same_eq a7 a l c7 c L W h7 (h.next hW) hl (by omega))
    have hE := Lib.hid (own_mt w w.heap.size (Nat.le_refl _))
    have B6 := b1 w (.cells #[] 52)
    have NS := neS (bldE n L).1
    have NG := eqG_neS
    replace hl := Lib.hid hl
    clear h hT F0
    generalize (bldE n L).1 = s1 at *
    generalize (bldE n L).2 = e1 at *
    generalize (kntE n L).1 = k1 at *
    generalize (kntE n L).2 = k2 at *
    have hq9 := joiE_len n L x
    generalize joiE n L x = jp at *
    obtain ⟨ps, e3⟩ := jp
    dsimp only at hq9
    clear B5
    have B5 := B6
    clear B6
    go_enter Tryz.func5, Tryz.ntmps5
    go_wp2_with (first
      | (go_at_call 14; (with_reducible refine (F.out _).mono ?_); rintro eq wq ⟨rfl, rfl⟩)
      | (at_builtin; refine wpList_copyT rfl _ _ rfl w.heap.size _ rfl 0 [] hE.out rfl a l c L rfl (hI.out _ B5) hl.out hnil (by omega) (by simp) ?_; intro v7 wq ho7 hg7; rw [Nat.zero_add, List.nil_append] at ho7; replace B5 := B5.grown hg7 (by simp) (fun k hk => (hE.out.lt k hk).1); obtain ⟨a7, c7, rfl, hc7, hT7, hn7⟩ := own_tripsA ho7 hl.out; clear ho7 hg7)
      | (go_at_call 25; (with_reducible refine (B1.out _ _ _ hT7 B5).mono ?_); rintro eq wq ⟨rfl, hbq⟩; replace B5 := nextB B5 hbq; replace hT7 := hT7.next hbq)
      | (go_at_call 26; (with_reducible refine (B2.out _ B5).mono ?_); rintro eq wq ⟨rfl, hbq⟩; replace B5 := nextB B5 hbq; replace hT7 := hT7.next hbq)
      | (go_at_call 27; (with_reducible refine (K1.out _ _ _ hT7 B5).mono ?_); rintro eq wq ⟨rfl, hbq⟩; replace B5 := nextB B5 hbq; replace hT7 := hT7.next hbq)
      | (go_at_call 28; (with_reducible refine (K2.out _ B5).mono ?_); rintro eq wq ⟨rfl, hbq⟩; replace B5 := nextB B5 hbq; replace hT7 := hT7.next hbq)
      | (go_at_call 29; (with_reducible refine (J1.out _ _ _ hT7 B5).mono ?_); rintro eq wq ⟨v14, rfl, ho14, hbq⟩; replace B5 := nextB B5 hbq; replace hT7 := hT7.next hbq; obtain ⟨a14, c14, rfl, hc14, hS14⟩ := own_sets ho14 rfl; clear ho14)
      | (go_at_call 30; (with_reducible refine (J2.out _ B5).mono ?_); rintro eq wq ⟨v15, rfl, ho15, hbq⟩; replace B5 := nextB B5 hbq; replace hT7 := hT7.next hbq; replace hS14 := hS14.next hbq; obtain ⟨a15, c15, rfl, hc15, hS15⟩ := own_sets ho15 rfl; clear ho15))
    obtain ⟨q, hq⟩ : ∃ q, Hid (ps.length = q) := ⟨_, Lib.hid rfl⟩
    rw [hq.out]
    rw [hq.out] at hq9
    have Z14 := Lib.hid (fun W (hW : Below wq.heap.size wq W) => hS14.next hW)
    have Z15 := Lib.hid (fun W (hW : Below wq.heap.size wq W) => hS15.next hW)
    have Z7 := Lib.hid (fun W (hW : Below wq.heap.size wq W) => hT7.next hW)
    replace B5 := Lib.hid B5
    clear hS14 hS15 hT7
    go_loopw [16] (fun i wr => ∃ k : Nat, k ≤ q ∧ i = .int .i64 k ∧ Below wq.heap.size wq wr) (fun i _ => q - (intOf i).toNat)
    case atStart => exact ⟨0, Nat.zero_le _, rfl, Below.refl _ _⟩
    case round =>
      obtain ⟨k, hk, rfl, B0⟩ := hrel
      by_cases hlt : k < q
      · have hkl : k < ps.length := by rw [hq.out]; exact hlt
        have hki : (k : Int) < (q : Int) := by omega
        rcases Z14.out _ B0 with e0 | ⟨b, off, rfl, hc⟩
        · omega
        · rcases Z15.out _ B0 with e0 | ⟨b', off', rfl, hc'⟩
          · omega
          · have x0 := cellX (hc k hkl)
            have x1 := cellX (hc' k hkl)
            generalize ((ps.getD k 0 : Nat) : Int) = y at *
            clear hc hc'
            go_wp2
            refine wp_region_ext (by kernel_rfl) (by kernel_rfl) ?_
            repeat (go_big_quiet_step (fail))
            refine wpQuiet_nil ?_
            rintro ⟨w2, hw2⟩
            dsimp only
            clear x0 x1
            go_wp2
            go_roundw
            case rel => exact ⟨k + 1, by omega, by go_num, nextB B0 hw2⟩
            case measure => simp [intOf]; omega
      · obtain rfl : k = q := by omega
        have B6 := nextB B5.out B0
        have SM2 := Lib.hid (SM.out _ _ c7 (Z7.out _ B0) B6)
        go_wp2_with (first
          | (go_at_call 22; (with_reducible refine SM2.out.mono ?_); rintro eq w8 ⟨rfl, hb8⟩; replace B6 := nextB B6 hb8)
          | (go_at_call 15; (with_reducible refine (C.out _ B6).mono ?_); rintro eq w9 ⟨rfl, hb9⟩; replace B6 := nextB B6 hb9))
        go_ret
        exact Ret.mk rfl B6
  · rw [decide_eq_false h100] at F
    replace F := Lib.hid F
    clear h hT F0
    go_enter Tryz.func5, Tryz.ntmps5
    go_wp2_with (first
      | (go_at_call 14; (with_reducible refine (F.out _).mono ?_); rintro eq wq ⟨rfl, rfl⟩)
      | (go_at_call 15; (with_reducible refine (C.out _ B5).mono ?_); rintro eq wq ⟨rfl, hbq⟩; replace B5 := nextB B5 hbq))
    go_ret
    exact Ret.mk rfl B5
end Go.Proofs.YtmejahoodeeijaaGreatDoor
