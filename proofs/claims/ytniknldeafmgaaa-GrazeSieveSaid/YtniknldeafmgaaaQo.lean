/- Layer 8, the specification: States, all. -/
import Derived.Test.YtniknldeafmgaaaQn
namespace Go.Proofs.Ytniknldeafmgaaa
set_option linter.unusedSimpArgs false
set_option linter.unusedVariables false
open Go Go.RowKit

set_option maxRecDepth 100000 in
set_option maxHeartbeats 4000000 in
theorem states_nil (a b m : Nat) (ha : a ≤ 6) (hb : b ≤ 6) (hk : m + 1 = a)
    (IH : ∀ g B c w, (∀ i, g i ≤ b) → 1 ≤ c → Ints w (some ⟨B, 0, none⟩) (stL 1 g) → Calls Try.prog 45 #[.int .i64 (a : Int), .int .i64 (b : Int), .slice (some ⟨B, 0, none⟩) 1 c] w (StsR a (stT a b m g) w))
    (g : Nat → Nat) (w : World) (hg : ∀ i, g i ≤ b) :
    Calls Try.prog 45 #[.int .i64 (a : Int), .int .i64 (b : Int), .slice none 0 0] w (StsR a (stT a b (m + 1) g) w) := by
  obtain ⟨i0, hi, hz0, hz1, hz2⟩ := info_parts infoInts
  have G0 := Lib.hid hi
  have G1 := Lib.hid hz0
  have G2 := Lib.hid hz1
  have G3 := Lib.hid hz2
  clear hi hz0 hz1 hz2
  obtain ⟨i1, hi, hz0, hz1, hz2⟩ := info_parts infoInt
  have H0 := Lib.hid hi
  have H1 := Lib.hid hz0
  have H2 := Lib.hid hz1
  have H3 := Lib.hid hz2
  clear hi hz0 hz1 hz2
  have ek : a - (m + 1) = 0 := by omega
  have d1 : ((0 : Int) == (a : Int)) = false := by rw [beq_eq_false_iff_ne]; omega
  have d2 : ¬ ((0 : Int) = (a : Int)) := by omega
  have hM : Hid (mo b g 0 = b) := Lib.hid (if_pos rfl)
  have hS0 := Lib.hid (stU_zero a b m g)
  have hSs := Lib.hid (fun s => stU_succ a b m g s)
  have hSa := stU_all a b m g
  have hSl := Lib.hid (fun s hs => stU_len a b m g (by omega) hg s (by omega) (by omega) hs)
  rw [ek] at hSa
  have hSs' : Hid (∀ s, stU a b m g (s + 1) = stU a b m g s ++ stT a b m (upf g 0 s)) := Lib.hid (fun s => by have := hSs.out s; rwa [ek] at this)
  rw [hM.out] at hSa
  replace hSa := Lib.hid hSa
  have hTl := Lib.hid (fun s (hs : s ≤ b) => stT_len a b (by omega) m (upf g 0 s) (upf_bd hg hs))
  have hTp := Lib.hid (fun s => stT_pos a b m (upf g 0 s))
  have h8 : Hid (8 ^ m ≤ 262144) := Lib.hid (by have := Nat.pow_le_pow_right (n := 8) (by omega) (show m ≤ 6 by omega); omega)
  have IH' := Lib.hid (fun s (hs : s ≤ b) B c w h1 h2 => IH (upf g 0 s) B c w (upf_bd hg hs) h1 h2)
  have hpt := Lib.hid (fun s => stL_put 0 g s)
  replace ek := Lib.hid ek
  clear IH hSs hM
  go_enter Try.func45, Try.ntmps45
  go_wp2
  go_loopw [7, 9] (fun v x wr => ∃ s : Nat, ∃ G : List (Nat × Nat), s ≤ b + 1 ∧ x = .int .i64 (s : Int) ∧ G.length = (stU a b m g s).length ∧ wr.ownsRow w.heap.size 22 1 v (stU a b m g s).length (rowsV a G) ∧ TabC a (stU a b m g s) wr G ∧ (G = [] → v = .slice none 0 0) ∧ Below w.heap.size w wr) (fun _ x _ => b + 1 - (intOf x).toNat)
  case atStart => exact ⟨0, [], Nat.zero_le _, rfl, by rw [hS0.out]; rfl, by rw [hS0.out]; exact World.ownsRow_nil _ _ _ _, fun r hr => by simp at hr, fun _ => rfl, Below.refl _ _⟩
  case round =>
    obtain ⟨s, G, hs, rfl, hG, hown, hTC, hnil, B0⟩ := hrel
    obtain ⟨av, cv, rfl, hcv⟩ := own_slice hown
    have hsz := B0.size
    replace hG := Lib.hid hG
    replace hown := Lib.hid hown
    replace hTC := Lib.hid hTC
    replace hnil := Lib.hid hnil
    replace B0 := Lib.hid B0
    by_cases hlt : s ≤ b
    · have hlt' : (s : Int) ≤ (b : Int) := by omega
      have hN := hSl.out s (by omega)
      have hT1 := hTl.out s (by omega)
      have hT2 := hTp.out s
      have h88 := h8.out
      have hSs1 := Lib.hid (hSs'.out s)
      have IHs := Lib.hid (fun B c w h1 h2 => IH'.out s (by omega) B c w h1 h2)
      have hpts := Lib.hid (hpt.out s)
      obtain ⟨N, hNN⟩ : ∃ N, Hid ((stU a b m g s).length = N) := ⟨_, Lib.hid rfl⟩
      obtain ⟨N2, hNN2⟩ : ∃ N, Hid ((stT a b m (upf g 0 s)).length = N) := ⟨_, Lib.hid rfl⟩
      rw [hNN.out] at hN hG hown hcv hnil ⊢
      rw [hNN2.out] at hT1 hT2
      have hN2 : N2 ≤ 262144 := by omega
      replace h88 := Lib.hid h88
      replace hT1 := Lib.hid hT1
      have ba := Lib.hid (b1 wr (.cells #[.int .i64 (s : Int)] 3))
      have hc1 := Lib.hid (cell_val_new wr (.int .i64 (s : Int)) 3)
      go_wp2_with (first
        | (at_builtin; refine wpList_append_grows _ rfl _ _ 22 rfl 3 i1 (.int .i64 0) 1 8 Try.underlying22 H0.out H1.out H2.out H3.out rfl (by decide) none 0 0 [] rfl (fun _ => ⟨rfl, rfl⟩) rfl (fun b h => by cases h) ⟨_, 0, none⟩ 1 1 [.int .i64 (s : Int)] rfl rfl hc1.out (by simp [Value.oneCell']) (by omega) (by unfold maxLen; omega) (by omega) ?_; intro v1 w3 hown3 hgrow3; replace hown3 := (show _ from hown3); rw [show ([] : List Value) ++ [.int .i64 (s : Int)] = lI (stL 1 (upf g 0 s)) from hpts.out] at hown3; obtain ⟨g3, c3, e3⟩ := own_pos hown3 (by omega); subst e3; have hk3 := Lib.hid (own_iblk hown3 (stL_len _ _)).ints; have hc3 : 1 ≤ c3 := (own_room hown3); have B3 := Lib.hid ((nextB B0.out ba.out).grown hgrow3 (by have := ba.out.size; omega) (fun q hq => by have h2 : (none : Option Nat) = some q := hq; cases h2)); have hown3' := Lib.hid (own_keepQ (hown.out.alloc (.cells #[.int .i64 (s : Int)] 3)) hgrow3 (fun _ _ h => by cases h)); have hTC3 := Lib.hid ((hTC.out.next ba.out).keep hgrow3 (fun _ _ h => by cases h)); clear hown3 hgrow3)
        | (go_at_call 45; (with_reducible refine (IHs.out _ _ _ hc3 hk3.out).mono ?_); rintro _ w4 ⟨v2, Gb, rfl, hGb, hown2, hTb, hb4⟩; rw [hNN2.out] at hGb hown2; obtain ⟨t2, c2, e2⟩ := own_pos hown2 (by omega); subst e2; have hown4 := Lib.hid (owns_next hown3'.out hb4); have hTC4 := Lib.hid (hTC3.out.next hb4); have B4 := Lib.hid (nextB B3.out hb4); have hs4 := B4.out.size; replace hGb := Lib.hid hGb; replace hown2 := Lib.hid hown2; replace hTb := Lib.hid hTb; clear hb4)
        | (at_builtin; refine wpList_append_own _ rfl _ _ 36 rfl w.heap.size 22 i0 (.slice none 0 0) 1 24 Try.underlying36 G0.out G1.out G2.out G3.out rfl (by decide) _ _ _ rfl hown4.out ⟨t2, 0, none⟩ N2 c2 (rowsV a Gb) rfl (by rw [rowsV_len, hGb.out, Nat.mul_one]) (hown2.out.cells (g := t2) rfl) rowsV_one (by unfold maxLen; omega) (by omega) hs4 ?_; intro v' w6 hown6 hgrow hiff; have B6 := Lib.hid (B4.out.grown hgrow hs4 (fun q hq => (hown4.out.lt q hq).1)); have hT6 := Lib.hid ((hTC4.out.keep hgrow (fun r hr => hTC4.out.apart (by omega) hG.out.symm hown4.out hr)).app (hTb.out.keep hgrow (fun r hr => (by
            by_cases hz : G = []
            · have e := hnil.out hz
              rw [e]; intro h; cases h
            · exact cell_apart hG.out.symm (by have : G.length ≠ 0 := fun h => hz (List.eq_nil_of_length_eq_zero h); have := hG.out; omega) hown4.out (hTb.out r hr 0 (by omega))))) (by rw [hG.out, hNN.out])); replace hown6 := Lib.hid hown6; clear hgrow hiff))
      go_roundw
      case rel => exact ⟨s + 1, G ++ Gb, by omega, by go_num, by rw [hSs1.out, List.length_append, List.length_append, hG.out, hGb.out, hNN.out, hNN2.out], by rw [hSs1.out, List.length_append, hNN.out, hNN2.out, rowsV_app]; exact hown6.out, by rw [hSs1.out]; exact hT6.out, fun h => (by have h1 := congrArg List.length h; rw [List.length_append, hGb.out] at h1; simp at h1; omega), B6.out⟩
      case measure => simp [intOf]; omega
    · have hlt' : (b : Int) < (s : Int) := by omega
      obtain rfl : s = b + 1 := by omega
      rw [hSa.out] at hG hown hTC hcv ⊢
      go_wp2
      go_ret
      exact ⟨_, G, rfl, hG.out, hown.out, hTC.out, B0.out⟩
theorem states_some (a b : Nat) (ha : a ≤ 6) (hb : b ≤ 6) : ∀ m k, k + m = a → 0 < k → ∀ (g : Nat → Nat) (B c : Nat) (w : World), (∀ i, g i ≤ b) → k ≤ c → Ints w (some ⟨B, 0, none⟩) (stL k g) →
    Calls Try.prog 45 #[.int .i64 (a : Int), .int .i64 (b : Int), .slice (some ⟨B, 0, none⟩) k c] w (StsR a (stT a b m g) w)
  | 0, k, h, h0, g, B, c, w, _, _, hI => by
    obtain rfl : k = a := by omega
    exact states_end k b g B c w h0 hI
  | m + 1, k, h, h0, g, B, c, w, hg, hc, hI =>
    states_step a b k m ha hb h h0 (fun g B c w h1 h2 h3 => states_some a b ha hb m (k + 1) (by omega) (by omega) g B c w h1 h2 h3) g B c w hg hc hI
theorem states_any (a b : Nat) (w : World) (ha : 1 ≤ a ∧ a ≤ 6) (hb : b ≤ 6) : Calls Try.prog 45 #[.int .i64 (a : Int), .int .i64 (b : Int), .slice none 0 0] w (StsR a (brs a b) w) := by
  obtain ⟨m, rfl⟩ : ∃ m, a = m + 1 := ⟨a - 1, by omega⟩
  have := states_nil (m + 1) b m ha.2 hb rfl (fun g B c w h1 h2 h3 => states_some (m + 1) b ha.2 hb m 1 (by omega) (by omega) g B c w h1 h2 h3) (fun _ => 0) w (fun _ => by omega)
  rwa [stT_all] at this
end Go.Proofs.Ytniknldeafmgaaa
