/- Layer 2: choices, by the program. -/
import Derived.Test.YtflbaadfbjpakaaCd
namespace Go.Proofs.Ytflbaadfbjpakaa
open Go Go.RowKit

/-- Corners as numbers. -/
def lC (cs : List Nat) : List Int := cs.map Int.ofNat
theorem lC_length (cs : List Nat) : (lC cs).length = cs.length := by simp [lC]
theorem lC_zero (c : Nat) (cs : List Nat) : nth (lC (c :: cs)) 0 = c := rfl
theorem lC_succ (c : Nat) (cs : List Nat) (i : Nat) : nth (lC (c :: cs)) (i + 1) = nth (lC cs) i := by simp [lC, nth]
theorem choF_cons (T : List Tri) (c : Nat) (cs : List Nat) (u : Nat) : choF T (c :: cs) u = sumTo (fun i => if u &&& pw i = 0 ∧ hasC (tth T i) c then choF T cs (u ||| pw i) else 0) T.length := rfl
theorem sumTo_succ (f : Nat → Int) (k : Nat) : sumTo f (k + 1) = sumTo f k + f k := rfl
theorem mem_three (t : Tri) (c : Nat) : ((c : Nat) : Int) ∈ [(t.1 : Int), (t.2.1 : Int), (t.2.2 : Int)] ↔ hasC t c := by
  simp only [List.mem_cons, List.not_mem_nil, or_false, hasC]
  omega
theorem three_nth (x y z : Int) (W : World) (B : Nat) (t : TypeId) (h : Blk W B t #[.int .i64 x, .int .i64 y, .int .i64 z]) : ∀ i, i < 3 → W.cell? ⟨B, 0 + i, none⟩ = some (.int .i64 (nth [x, y, z] i)) := by
  intro i hi
  have : i = 0 ∨ i = 1 ∨ i = 2 := by omega
  rcases this with rfl | rfl | rfl
  · exact h.c 0 rfl
  · exact h.c 1 rfl
  · exact h.c 2 rfl
set_option maxRecDepth 100000 in
set_option maxHeartbeats 4000000 in
theorem choices_any (T : List Tri) (aT : Option Addr) (q capT : Nat) (hq : T.length = q) (hq20 : q ≤ 20) : ∀ (cs : List Nat) (aC : Option Addr) (n cC u : Nat) (w : World), cs.length = n → n ≤ 11 → u < pw 20 → n ≤ cC → Trs w aT T → Ints w aC (lC cs) →
    Calls Try.prog 62 #[.slice aC n cC, .slice aT q capT, .int .i64 u] w (Ret (.int .i64 (choF T cs u)) w) := by
  intro cs
  induction cs with
  | nil =>
    intro aC n cC u w hn _ _ _ _ _
    obtain rfl : n = 0 := by simpa using hn.symm
    clear hn
    go_enter Try.func62, Try.ntmps62
    go_wp2_with fail
    go_ret
    exact Ret.mk rfl (Below.refl _ _)
  | cons c cs ih =>
    intro aC n cC u w hn hn10 hu hcap hT hC
    obtain ⟨n', rfl⟩ : ∃ n', n = n' + 1 := ⟨n - 1, by simp at hn; omega⟩
    have hn' : cs.length = n' := by simpa using hn
    obtain ⟨b, off, rfl, hc⟩ := ints_at hC (by rw [lC_length, hn]; omega)
    rw [lC_length, hn] at hc
    have hc0 := hc 0 (by omega)
    rw [lC_zero, Nat.add_zero] at hc0
    have htail : Hid (∀ i, i < n' → w.cell? ⟨b, off + 1 + i, none⟩ = some (.int .i64 (nth (lC cs) i))) := Lib.hid (fun i hi => by
      have := hc (i + 1) (by omega)
      rw [lC_succ, show off + (i + 1) = off + 1 + i by omega] at this
      exact this)
    have hsum := Lib.hid (choF_cons T c cs u)
    have hbd := Lib.hid (fun k (hk : k ≤ q) => show 0 ≤ sumTo (fun i => if u &&& pw i = 0 ∧ hasC (tth T i) c then choF T cs (u ||| pw i) else 0) k ∧ sumTo (fun i => if u &&& pw i = 0 ∧ hasC (tth T i) c then choF T cs (u ||| pw i) else 0) k ≤ 20 * 4096000000000000 from by
      have hp := pow20 (k := cs.length) (by omega)
      have key : ∀ k, k ≤ q → 0 ≤ sumTo (fun i => if u &&& pw i = 0 ∧ hasC (tth T i) c then choF T cs (u ||| pw i) else 0) k ∧ sumTo (fun i => if u &&& pw i = 0 ∧ hasC (tth T i) c then choF T cs (u ||| pw i) else 0) k ≤ k * 4096000000000000 := by
        intro k
        induction k with
        | zero => intro _; simp [sumTo]
        | succ k ihk =>
          intro hk
          rw [sumTo_succ]
          have h1 := ihk (by omega)
          have h2 := choF_bd T (by omega) cs (u ||| pw k)
          split <;> omega
      have := key k hk
      omega)
    generalize hf : (fun i => if u &&& pw i = 0 ∧ hasC (tth T i) c then choF T cs (u ||| pw i) else 0) = f at *
    have hfk := Lib.hid (fun k => show f k = if u &&& pw k = 0 ∧ hasC (tth T k) c then choF T cs (u ||| pw k) else 0 by rw [← hf])
    replace ih := Lib.hid ih
    replace hT := Lib.hid hT
    replace hq := Lib.hid hq
    replace hn := Lib.hid hn
    replace hn' := Lib.hid hn'
    clear hf hC hc
    go_enter Try.func62, Try.ntmps62
    go_wp2_with fail
    go_loopw [7, 15] (fun s i wr => ∃ k : Nat, k ≤ q ∧ i = .int .i64 k ∧ s = .int .i64 (sumTo f k) ∧ Below w.heap.size w wr) (fun _ i _ => q - (intOf i).toNat)
    case atStart => exact ⟨0, by omega, rfl, rfl, Below.refl _ _⟩
    case round =>
      obtain ⟨k, hk, rfl, rfl, B0⟩ := hrel
      obtain ⟨s0, s1⟩ := hbd.out k hk
      by_cases hlt : k < q
      · have hTr := hT.out.next B0
        rcases hTr with hTr | ⟨bT, rfl, hct⟩
        · exact absurd hq.out (by omega)
        obtain ⟨c0, c1, c2⟩ := hct k (by rw [hq.out]; exact hlt)
        clear hct
        have hi1 : (k : Int) < (q : Int) := by omega
        go_wp2_with fail
        have X0 := Blk.new wr 29 #[.int .i64 (tth T k).1, .int .i64 (tth T k).2.1, .int .i64 (tth T k).2.2]
        have BW := b1 wr (.cells #[.int .i64 (tth T k).1, .int .i64 (tth T k).2.1, .int .i64 (tth T k).2.2] 29)
        have sh : wrap64 ((2 : Int) ^ k) = ((pw k : Nat) : Int) := by rw [pw_int]; exact IntWalk.wrap64_in _ ⟨by have := pw_le (show k < 40 by omega); omega, by have := pw_le (show k < 40 by omega); omega⟩
        have hpk := pw_le (show k < 40 by omega)
        have hu2 : u < 1099511627776 := by have := pw_le (show 20 < 40 by omega); omega
        have an := i64_and_nat u (pw k) (by omega) (by omega)
        have orr := i64_or_nat u (pw k) (by omega) (by omega)
        have hO := or_lt hu (show k < 20 by omega)
        have hs := Lib.hid (sumTo_succ f k)
        have hfk' := Lib.hid (hfk.out k)
        have hm3 := Lib.hid (mem_three (tth T k) c)
        have CI := Lib.hid (fun (x : Ext (wr.alloc (.cells #[.int .i64 (tth T k).1, .int .i64 (tth T k).2.1, .int .i64 (tth T k).2.2] 29))) => containsI_any wr.heap.size 0 3 3 [((tth T k).1 : Int), ((tth T k).2.1 : Int), ((tth T k).2.2 : Int)] c x.world rfl (by omega) (three_nth _ _ _ _ _ _ (X0.ext x.ok)))
        have hc1 := cellX (cellB BW (cellB B0 hc0))
        clear X0 c0 c1 c2
        have B0W := nextB B0 BW
        clear BW
        generalize (wr.alloc (.cells #[.int .i64 (tth T k).1, .int .i64 (tth T k).2.1, .int .i64 (tth T k).2.2] 29)) = W at *
        generalize wr.heap.size = zr at *
        generalize hA : u &&& pw k = A at *
        generalize hOO : u ||| pw k = O at *
        generalize pw k = P at *
        clear hA hOO
        cases g : ((A : Int) == 0)
        · have hA0 := Lib.hid (show ¬ A = 0 by simpa using g)
          refine wp_region_ext (by kernel_rfl) (by kernel_rfl) ?_
          repeat (go_big_quiet_step (fail))
          refine wpQuiet_nil ?_
          rintro ⟨w1, hw1⟩
          dsimp only
          replace B0 := nextB B0W hw1
          clear hc1 hw1 sh an orr B0W
          go_wp2_with fail
          go_roundw
          case rel => exact ⟨k + 1, by omega, by go_num, by rw [hs.out, hfk'.out, if_neg (fun h => hA0.out h.1), Int.add_zero], B0⟩
          case measure => simp [intOf]; omega
        · have hA0 := Lib.hid (show A = 0 by simpa using g)
          cases g2 : decide ((c : Int) ∈ [((tth T k).1 : Int), ((tth T k).2.1 : Int), ((tth T k).2.2 : Int)])
          all_goals rw [g2] at CI
          · have hno := Lib.hid (fun h => (of_decide_eq_false g2) (hm3.out.2 h))
            clear g2
            refine wp_region_ext (by kernel_rfl) (by kernel_rfl) ?_
            repeat (go_big_quiet_step ((go_at_call 80; exact onlyE (CI.out _))))
            refine wpQuiet_nil ?_
            rintro ⟨w1, hw1⟩
            dsimp only
            replace B0 := nextB B0W hw1
            clear hc1 hw1 sh an orr B0W
            go_wp2_with fail
            go_roundw
            case rel => exact ⟨k + 1, by omega, by go_num, by rw [hs.out, hfk'.out, if_neg (fun h => hno.out h.2), Int.add_zero], B0⟩
            case measure => simp [intOf]; omega
          · have hyes := Lib.hid (hm3.out.1 (of_decide_eq_true g2))
            clear g2
            refine wp_region_ext (by kernel_rfl) (by kernel_rfl) ?_
            repeat (go_big_quiet_step ((go_at_call 80; exact onlyE (CI.out _))))
            refine wpQuiet_nil ?_
            rintro ⟨w1, hw1⟩
            dsimp only
            replace B0 := nextB B0W hw1
            clear hc1 hw1 B0W
            go_wp2_with fail
            have hcb := choF_bd T (by rw [hq.out]; exact hq20) cs O
            have hp20 := pow20 (k := cs.length) (by rw [hn'.out]; omega)
            have v1 := hcb.1
            have v2 := Int.le_trans hcb.2 hp20
            clear hcb hp20
            by_cases hcc : cC = 1
            · have hn0 : n' = 0 := by omega
              have IH := Lib.hid (fun (x : Ext w1) => ih.out (some ⟨b, off, none⟩) 0 0 O x.world (by rw [hn'.out]; exact hn0) (by omega) hO (by omega) ((hT.out.next B0).next x.ok) (.inl (by rw [lC_length, hn'.out]; omega)))
              refine wp_region_ext (by kernel_rfl) (by kernel_rfl) ?_
              repeat (go_big_quiet_step ((go_at_call 62; exact callE (IH.out _))))
              refine wpQuiet_nil ?_
              rintro ⟨w2, hw2⟩
              dsimp only
              have B1 := nextB B0 hw2
              clear hw2 B0 sh an orr
              go_wp2_with fail
              go_roundw
              case rel => exact ⟨k + 1, by omega, by go_num, by rw [hs.out, hfk'.out, if_pos ⟨hA0.out, hyes.out⟩], B1⟩
              case measure => simp [intOf]; omega
            · skip
              have IH := Lib.hid (fun (x : Ext w1) => ih.out (some ⟨b, off + 1, none⟩) n' (cC - 1) O x.world hn'.out (by omega) hO (by omega) ((hT.out.next B0).next x.ok) (.inr ⟨b, off + 1, rfl, fun i hi => cellB x.ok (cellB B0 (htail.out i (by rw [lC_length, hn'.out] at hi; exact hi)))⟩))
              refine wp_region_ext (by kernel_rfl) (by kernel_rfl) ?_
              repeat (go_big_quiet_step ((go_at_call 62; exact callE (IH.out _))))
              refine wpQuiet_nil ?_
              rintro ⟨w2, hw2⟩
              dsimp only
              have B1 := nextB B0 hw2
              clear hw2 B0 sh an orr
              go_wp2_with fail
              go_roundw
              case rel => exact ⟨k + 1, by omega, by go_num, by rw [hs.out, hfk'.out, if_pos ⟨hA0.out, hyes.out⟩], B1⟩
              case measure => simp [intOf]; omega
      · obtain rfl : k = q := by omega
        go_wp2_with fail
        go_ret
        exact Ret.mk (by rw [hsum.out, hq.out]; rfl) B0
end Go.Proofs.Ytflbaadfbjpakaa
