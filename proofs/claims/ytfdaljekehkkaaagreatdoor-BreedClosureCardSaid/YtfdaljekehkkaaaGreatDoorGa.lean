/- Layer 5, by the program: the family of beasts; does a tree show a triple. -/
import Derived.Test.YtfdaljekehkkaaaGreatDoorEc
import Derived.Test.YtfdaljekehkkaaaGreatDoorFa
namespace Go.Proofs.YtfdaljekehkkaaaGreatDoor
open Go Go.RowKit

theorem famL_drop {s d : Nat} {ks : List Tr} {k : Nat} (h : k < ks.length) : famL s d (ks.drop k) = if inB s ks[k].set then famOf s ks[k] else famL s d (ks.drop (k + 1)) := by
  rw [List.drop_eq_getElem_cons h, famL]
  unfold inB
  by_cases e : ks[k].set &&& s = s
  · rw [if_pos e, if_pos (by simpa using e)]
  · rw [if_neg e, if_neg (by simpa using e)]
theorem ta_leaf (b : Nat) (W : World) : (Instr.typeAssert (leafV b) 57 92 true).run Tryz.prog W = .ok (.tuple #[.agg #[.int .i64 0, .slice none 0 0], .bool false]) W := by kernel_rfl
theorem ta_fam (x : Value) (W : World) : (Instr.typeAssert (.iface 92 x) 57 92 true).run Tryz.prog W = .ok (.tuple #[x, .bool true]) W := by kernel_rfl
set_option maxRecDepth 100000 in
set_option maxHeartbeats 2000000 in
theorem familyOf_any : ∀ (t : Tr) (A : Nat → Prop) (v : Value) (s : Nat) (w : World), TreeV A w t v → s < 512 → Calls Tryz.prog 37 #[v, .int .i64 (s : Nat)] w (Ret (.int .i64 ((famOf s t : Nat) : Int)) w) := by
  intro t
  induction t using Tr.ind with
  | h1 b =>
    intro A v s w h hs
    have h2 := h
    simp only [TreeV] at h2
    obtain ⟨rfl, hb⟩ := h2
    have C := Lib.hid (beastBeasts_any b (by omega) w)
    have hm := meth_leafB b
    have ht := ta_leaf b
    clear h
    show Calls Tryz.prog _ _ w (Ret (.int .i64 ((pw b : Nat) : Int)) w)
    generalize pw b = p at *
    go_enter Tryz.func37, Tryz.ntmps37
    go_wp2_with (go_at_call 48; (with_reducible refine C.out.mono ?_); rintro e w1 ⟨rfl, rfl⟩)
    go_ret
    exact Ret.mk rfl (Below.refl _ _)
  | h2 ks ih =>
    intro A v s w h hs
    simp only [TreeV] at h
    obtain ⟨blk, off, c, rfl, hsl, ha, h0, hk⟩ := h
    rw [treesV_iff] at hk
    show Calls Tryz.prog _ _ w (Ret (.int .i64 ((famL s (setL ks) ks : Nat) : Int)) w)
    obtain ⟨r, hr⟩ : ∃ r, Hid (famL s (setL ks) ks = r) := ⟨_, Lib.hid rfl⟩
    rw [hr.out]
    obtain ⟨n, hn⟩ : ∃ n, Hid (ks.length = n) := ⟨_, Lib.hid rfl⟩
    rw [hn.out] at h0
    rw [hn.out]
    replace hk := Lib.hid hk
    replace ih := Lib.hid ih
    obtain ⟨d, hd⟩ : ∃ d, Hid (setL ks = d) := ⟨_, Lib.hid rfl⟩
    rw [hd.out] at hr hsl
    rw [hd.out]
    have hn1 := h0.1
    have hn2 := h0.2
    · have hB := Blk.new w 92 #[.int .i64 (d : Int), .slice (some ⟨blk, off, none⟩) n c]
      have x0 := hB.c 0 rfl
      have x1 := hB.c 1 rfl
      have bA := Lib.hid (b1 w (.cells #[.int .i64 (d : Int), .slice (some ⟨blk, off, none⟩) n c] 92))
      replace hB := Lib.hid hB
      have ht := fun x => ta_fam x
      go_enter Tryz.func37, Tryz.ntmps37
      go_wp2
      go_loop [18] (fun i => ∃ k : Nat, k ≤ n ∧ i = .int .i64 k ∧ Hid (famL s d (ks.drop k) = r)) (fun i => n - (intOf i).toNat)
      case atStart => exact ⟨0, Nat.zero_le _, rfl, Lib.hid hr.out⟩
      case round =>
        obtain ⟨k, hk', rfl, hf⟩ := hrel
        by_cases hlt : k < n
        · have hkl : k < ks.length := by rw [hn.out]; exact hlt
          obtain ⟨v0, hc, hv⟩ := hk.out k hkl
          have y0 := cellB bA.out hc
          have hvs := hv.set_lt
          have H := Lib.hid (fun W => has_any ks[k].set s hvs hs W)
          obtain ⟨ty, pay, f, arg, rfl, hm, he, hnl, hC⟩ := hv.beasts
          have R := Lib.hid (ih.out ks[k] (List.getElem_mem hkl) A _ s _ (hv.next bA.out) hs)
          have F := Lib.hid (famL_drop (s := s) (d := d) hkl)
          have hki : (k : Int) < (n : Int) := by omega
          replace hC := Lib.hid hC
          clear hc hv hvs
          generalize ks[k].set = ts at *
          generalize famOf s ks[k] = fo at *
          cases hin : inB s ts
          · rw [hin] at H F
            have F2 := Lib.hid (F.out.symm.trans hf.out)
            go_wp2_with (first
              | ((with_reducible refine (hC.out _).mono ?_); rintro e w2 ⟨rfl, rfl⟩)
              | (go_at_call 49; (with_reducible refine (H.out _).mono ?_); rintro e w2 ⟨rfl, rfl⟩))
            go_round
            case rel => exact ⟨k + 1, by omega, by go_num, F2⟩
            case measure => simp [intOf]; omega
          · rw [hin] at H F
            have F2 := Lib.hid (F.out.symm.trans hf.out)
            go_wp2_with (first
              | ((with_reducible refine (hC.out _).mono ?_); rintro e w2 ⟨rfl, rfl⟩)
              | (go_at_call 49; (with_reducible refine (H.out _).mono ?_); rintro e w2 ⟨rfl, rfl⟩)
              | (go_at_call 37; (with_reducible refine R.out.mono ?_); rintro e w2 ⟨rfl, hb2⟩))
            go_ret
            exact Ret.mk (by rw [← F2.out]; rfl) (nextB bA.out hb2)
        · obtain rfl : k = n := by omega
          have hf2 : Hid (d = r) := Lib.hid (by rw [← hf.out, ← hn.out, List.drop_length]; rfl)
          go_wp2
          go_ret
          exact Ret.mk (by rw [hf2.out]; rfl) bA.out
end Go.Proofs.YtfdaljekehkkaaaGreatDoor
