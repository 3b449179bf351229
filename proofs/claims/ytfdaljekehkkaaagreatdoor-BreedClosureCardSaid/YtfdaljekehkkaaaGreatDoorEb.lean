/- Layer 5: slices.SortFunc of at most twelve trees, by their least beasts. -/
import Derived.Test.YtfdaljekehkkaaaGreatDoorEa
namespace Go.Proofs.YtfdaljekehkkaaaGreatDoor
open Go Go.RowKit

/-- All blocks that were there, but for block g, are as they were. -/
def Apart (g : Nat) (w w' : World) : Prop := w.heap.size ≤ w'.heap.size ∧ ∀ b, b < w.heap.size → b ≠ g → w'.heap[b]? = w.heap[b]?
theorem Apart.refl (g : Nat) (w : World) : Apart g w w := ⟨Nat.le_refl _, fun _ _ _ => rfl⟩
theorem Apart.next {g : Nat} {w w1 w2 : World} (h : Apart g w w1) (hb : Below w1.heap.size w1 w2) : Apart g w w2 :=
  ⟨Nat.le_trans h.1 hb.size, fun b h1 h2 => (hb.block b (Nat.lt_of_lt_of_le h1 h.1)).trans (h.2 b h1 h2)⟩
theorem Apart.setCell {g i : Nat} {w w1 : World} (h : Apart g w w1) (v : Value) : Apart g w (w1.setCell ⟨g, i, none⟩ v) :=
  ⟨Nat.le_trans h.1 (by simp), fun b h1 h2 => (Below.heap_setCell w1 ⟨g, i, none⟩ v b h2).trans (h.2 b h1 h2)⟩
/-- An element is a tree; its key is the least beast. -/
def TreeE (A : Nat → Prop) (w : World) (L : List El) : Prop := ∀ e ∈ L, ∃ t : Tr, TreeV A w t e.2 ∧ t.set ≠ 0 ∧ e.1 = lowB t.set
theorem TreeE.perm {A : Nat → Prop} {w : World} {L M : List El} (h : TreeE A w L) (hp : M.Perm L) : TreeE A w M := fun e he => h e (hp.mem_iff.1 he)
theorem TreeE.at {A : Nat → Prop} {w : World} {L : List El} (h : TreeE A w L) {i : Nat} (hi : i < L.length) : ∃ t : Tr, TreeV A w t (eth L i).2 ∧ t.set ≠ 0 ∧ (eth L i).1 = lowB t.set := by rw [eth_get hi]; exact h _ (List.getElem_mem hi)
/-- Two trees are compared. -/
theorem cmpE_any {A : Nat → Prop} {w0 : World} {L : List El} (h : TreeE A w0 L) {i j : Nat} (hi : i < L.length) (hj : j < L.length) (w : World) (hT : Tab w) :
    Calls Tryz.prog 57 #[(eth L i).2, (eth L j).2] w (Only (.int .i64 (((eth L i).1 : Nat) - ((eth L j).1 : Nat) : Int)) w) := by
  obtain ⟨t, h1, h2, h3⟩ := h.at hi
  obtain ⟨u, k1, k2, k3⟩ := h.at hj
  rw [h3, k3]
  exact cmpT_any t u _ _ w0 w0 w h1 k1 h2 k2 hT
/-- A row of trees was put in order, in place. -/
def SortsT (base g n cap : Nat) (L : List El) (w : World) (en : Ending) (w' : World) : Prop :=
  en = .returned (.tuple #[]) ∧ ∃ M : List El, M.Perm L ∧ SortedE M ∧ w'.ownsRow base 57 1 (.slice (some ⟨g, 0, none⟩) n cap) n (cE M) ∧ Below base w w' ∧ Apart g w w'
abbrev cmpV : Value := .func (.func 57) #[] #[]
set_option maxRecDepth 100000 in
set_option maxHeartbeats 4000000 in
theorem insT_any (base g n cap : Nat) (L : List El) (w : World) (hl : L.length = n) (h60 : n ≤ 1000) (hb : base ≤ g) (A : Nat → Prop) (hS : TreeE A w L) (HT : ∀ W, Below base w W → Tab W)
    (hown : w.ownsRow base 57 1 (.slice (some ⟨g, 0, none⟩) n cap) n (cE L)) :
    Calls Tryz.prog 78 #[.slice (some ⟨g, 0, none⟩) n cap, .int .i64 0, .int .i64 n, cmpV] w (SortsT base g n cap L w) := by
  have hl' := Lib.hid hl
  replace hS := Lib.hid hS
  replace HT := Lib.hid HT
  clear hl
  go_enter Tryz.func78, Tryz.ntmps78
  go_wp2
  go_loopw [8] (fun i wr => ∃ k : Nat, ∃ M : List El, 1 ≤ k ∧ k ≤ n + 1 ∧ i = .int .i64 k ∧ M.Perm L ∧ (∀ x y, x < y → y < k → y < n → (eth M x).1 ≤ (eth M y).1) ∧ wr.ownsRow base 57 1 (.slice (some ⟨g, 0, none⟩) n cap) n (cE M) ∧ Below base w wr ∧ Hid (Apart g w wr)) (fun i _ => n + 1 - (intOf i).toNat)
  case atStart => exact ⟨1, L, by omega, by omega, rfl, List.Perm.refl _, fun x y h1 h2 => by omega, hown, Below.refl _ _, Lib.hid (Apart.refl _ _)⟩
  case round =>
    clear hown
    obtain ⟨k, M, hk1, hk, rfl, hp, hso, hown, B0, AP⟩ := hrel
    replace hp := Lib.hid hp
    replace hso := Lib.hid hso
    by_cases hlt : k < n
    · go_wp2
      go_loopw [9] (fun i wr => ∃ j : Nat, ∃ M : List El, j ≤ k ∧ i = .int .i64 j ∧ M.Perm L ∧ AlmostE M k j ∧ wr.ownsRow base 57 1 (.slice (some ⟨g, 0, none⟩) n cap) n (cE M) ∧ Below base w wr ∧ Hid (Apart g w wr)) (fun i _ => (intOf i).toNat)
      case atStart => exact ⟨k, M, by omega, rfl, hp.out, almostE_start (fun x y h1 h2 => hso.out x y h1 h2 (by omega)), hown, B0, AP⟩
      case round =>
        clear hown B0 AP hp hso
        obtain ⟨j, M, hj, rfl, hp, hal, hown, B0, AP⟩ := hrel
        have hMl := Lib.hid (show M.length = n from by rw [hp.length_eq]; exact hl'.out)
        have hSM := Lib.hid (hS.out.perm hp)
        replace hp := Lib.hid hp
        replace hal := Lib.hid hal
        by_cases h0 : 0 < j
        · have q0 := hown.cellAt j (by omega)
          have q2 := hown.cellAt (j - 1) (by omega)
          rw [cE_at (by rw [hMl.out]; omega)] at q0 q2
          have x0 := cellX q0
          have x2 := cellX q2
          clear q0 q2
          have i1 : (0 : Int) ≤ (j : Int) - 1 := by omega
          have i2 : ((j : Int) - 1).toNat = j - 1 := by omega
          have i3 : (0 : Int) < (j : Int) := by omega
          have i4 : (j : Int) < (n : Int) := by omega
          have i5 : (1 : Int) ≤ (j : Int) := by omega
          have i6 : (j : Int) - 1 < (n : Int) := by omega
          have D := fun (x : Ext wr) => (cmpE_any hSM.out (i := j) (j := j - 1) (by rw [hMl.out]; omega) (by rw [hMl.out]; omega) x.world (HT.out _ (B0.trans (x.ok.mono (by have := B0.size; have := (hown.lt g rfl).2; omega))))).mono fun _ _ k => k.ret
          obtain ⟨cv, hcv⟩ : ∃ b, Hid (decide ((eth M j).1 < (eth M (j - 1)).1) = b) := ⟨_, Lib.hid rfl⟩
          obtain ⟨dv, hdv⟩ : ∃ d, Hid ((((eth M j).1 : Nat) - ((eth M (j - 1)).1 : Nat) : Int) = d) := ⟨_, Lib.hid rfl⟩
          rw [hdv.out] at D
          have hlz : decide (dv < 0) = cv := by rw [← hcv.out, ← hdv.out, decide_eq_decide]; omega
          obtain ⟨v0, hv0⟩ : ∃ v, Hid ((eth M j).2 = v) := ⟨_, Lib.hid rfl⟩
          obtain ⟨v1, hv1⟩ : ∃ v, Hid ((eth M (j - 1)).2 = v) := ⟨_, Lib.hid rfl⟩
          rw [hv0.out, hv1.out] at D
          rw [hv0.out] at x0
          rw [hv1.out] at x2
          replace D := Lib.hid D
          go_wp2
          refine wp_region_ext (by kernel_rfl) (by kernel_rfl) ?_
          repeat (go_big_quiet_step ((exact callE (D.out _))))
          refine wpQuiet_nil ?_
          rintro ⟨w1, hw1⟩
          dsimp only
          replace B0 := B0.trans (hw1.mono (by have := B0.size; have := (hown.lt g rfl).2; omega))
          replace hown := owns_next hown hw1
          replace AP := Lib.hid (AP.out.next hw1)
          clear x0 x2 D hw1 hlz
          cases cv
          · have hnl := Lib.hid (of_decide_eq_false hcv.out)
            go_wp2
            go_roundw
            case rel => exact ⟨k + 1, M, by omega, by omega, by go_num, hp.out, fun x y h1 h2 _ => almostE_done hal.out (.inr hnl.out) x y h1 (by omega), hown, B0, AP⟩
            case measure => simp [intOf]; omega
          · have hlx := Lib.hid (of_decide_eq_true hcv.out)
            have q0 := hown.cellAt j (by omega)
            have q2 := hown.cellAt (j - 1) (by omega)
            rw [cE_at (by rw [hMl.out]; omega)] at q0 q2
            rw [hv0.out] at q0
            rw [hv1.out] at q2
            have sh0 : ∃ ty pay, v0 = .iface ty pay := by
              obtain ⟨t, ht, _⟩ := hSM.out.at (i := j) (by rw [hMl.out]; omega)
              rw [← hv0.out]; exact ht.shape
            have sh1 : ∃ ty pay, v1 = .iface ty pay := by
              obtain ⟨t, ht, _⟩ := hSM.out.at (i := j - 1) (by rw [hMl.out]; omega)
              rw [← hv1.out]; exact ht.shape
            obtain ⟨ty0, pay0, rfl⟩ := sh0
            obtain ⟨ty1, pay1, rfl⟩ := sh1
            have f0 := hown.frozenAt j
            have f2 := hown.frozenAt (j - 1)
            have n1 : ¬ j - 1 = j := by omega
            have n3 : ¬ j = j - 1 := by omega
            go_wp2
            go_region
            all_goals
              obtain ⟨hown4, B4⟩ := swap_worldE (j := j) hown hMl.out (by omega) hb B0
              rw [hv0.out, hv1.out] at hown4 B4
              have AP4 := Lib.hid (((AP.out.setCell (i := j) (.iface ty1 pay1)).setCell (i := j - 1) (.iface ty0 pay0)).next (Below.refl _ _).drew)
              clear q0 q2 f0 f2 n1 n3 hown
              generalize (((w1.setCell ⟨g, j, none⟩ (.iface ty1 pay1)).setCell ⟨g, j - 1, none⟩ (.iface ty0 pay0)).drew) = w4 at *
              go_wp2
              go_roundw
              case rel => exact ⟨j - 1, swapE M j, by omega, by simp only [Value.int.injEq, true_and]; omega, (swapE_perm (by rw [hMl.out]; omega)).trans hp.out, almostE_swap hal.out (by rw [hMl.out]; omega) hj h0 hlx.out, hown4, B4, AP4⟩
              case measure => simp [intOf]; omega
        · have i3 : (j : Int) ≤ 0 := by omega
          go_wp2
          refine wp_region_ext (by kernel_rfl) (by kernel_rfl) ?_
          repeat (go_big_quiet_step (fail))
          refine wpQuiet_nil ?_
          rintro ⟨w1, hw1⟩
          dsimp only
          replace B0 := B0.trans (hw1.mono (by have := B0.size; have := (hown.lt g rfl).2; omega))
          replace hown := owns_next hown hw1
          replace AP := Lib.hid (AP.out.next hw1)
          clear hw1
          go_wp2
          go_roundw
          case rel => exact ⟨k + 1, M, by omega, by omega, by go_num, hp.out, fun x y h1 h2 _ => almostE_done hal.out (.inl (by omega)) x y h1 (by omega), hown, B0, AP⟩
          case measure => simp [intOf]; omega
    · go_wp2
      go_end0
      exact ⟨rfl, M, hp.out, fun x y h1 h2 => hso.out x y h1 (by have := hp.out.length_eq; rw [hl'.out] at this; omega) (by have := hp.out.length_eq; rw [hl'.out] at this; omega), hown, B0, AP.out⟩
set_option maxRecDepth 100000 in
set_option maxHeartbeats 1600000 in
theorem sortT_any (base g n cap : Nat) (L : List El) (w : World) (hl : L.length = n) (h12 : n ≤ 12) (hb : base ≤ g) (A : Nat → Prop) (hS : TreeE A w L) (HT : ∀ W, Below base w W → Tab W)
    (hown : w.ownsRow base 57 1 (.slice (some ⟨g, 0, none⟩) n cap) n (cE L)) :
    Calls Tryz.prog 56 #[.slice (some ⟨g, 0, none⟩) n cap, cmpV] w (SortsT base g n cap L w) := by
  have I := Lib.hid (insT_any base g n cap L w hl (by omega) hb A hS HT hown)
  have P : Hid (∀ lim, Calls Tryz.prog 65 #[.slice (some ⟨g, 0, none⟩) n cap, .int .i64 0, .int .i64 n, .int .i64 lim, cmpV] w (SortsT base g n cap L w)) := by
    refine Lib.hid fun lim => ?_
    clear hown hl hS HT
    go_enter Tryz.func65, Tryz.ntmps65
    go_wp2
    refine wp_loop_rounds 1 ?_
    rw [rounds_succ]
    go_wp2_with (go_at_call 78; refine I.out.mono ?_; rintro e w1 ⟨rfl, hs⟩; replace hs := Lib.hid hs)
    go_end0
    exact ⟨rfl, hs.out⟩
  have N := fun W => len_any n W h12
  clear hown hl hS I HT
  go_enter Tryz.func56, Tryz.ntmps56
  go_wp2_with (first
    | (go_at_call 61; refine (N _).mono ?_; rintro e w1 ⟨r, rfl, rfl⟩)
    | (go_at_call 65; refine (P.out _).mono ?_; rintro e w1 ⟨rfl, hs⟩; replace hs := Lib.hid hs))
  go_end0
  exact ⟨rfl, hs.out⟩
end Go.Proofs.YtfdaljekehkkaaaGreatDoor
