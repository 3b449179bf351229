/- Layer 8, mathematics: how many states are the same. -/
import Derived.Test.YtniknldeafmgaaaQm
import Derived.Test.YtniknldeafmgaaaGn
namespace Go.Proofs.Ytniknldeafmgaaa
set_option linter.unusedSimpArgs false
set_option linter.unusedVariables false

theorem stT_keep (a b : Nat) : ∀ m, m ≤ a → ∀ g, ∀ f ∈ stT a b m g, ∀ i, i < a - m → f i = g i
  | 0, _, g, f, hf, i, _ => by
    rw [stT, List.mem_singleton] at hf
    rw [hf]
  | m + 1, h, g, f, hf, i, hi => by
    rw [stT, List.mem_flatMap] at hf
    obtain ⟨g', hg', hf'⟩ := hf
    unfold oneF at hg'
    obtain ⟨s, _, rfl⟩ := List.mem_map.1 hg'
    rw [stT_keep a b m (by omega) _ f hf' i (by omega), upf_ne _ _ (by omega)]
theorem stT_sts (a b : Nat) : ∀ m, m ≤ a → ∀ g, (stT a b m g).map (fun f => stR f (a - m) m) = sts (mo b g (a - m)) m
  | 0, _, g => rfl
  | m + 1, h, g => by
    have ih := stT_sts a b m (by omega)
    have ek : a - m = a - (m + 1) + 1 := by omega
    unfold stT oneF
    rw [sts, List.map_flatMap, List.flatMap_map]
    congr 1
    funext s
    have e1 : (stT a b m (upf g (a - (m + 1)) s)).map (fun f => stR f (a - (m + 1)) (m + 1)) = (stT a b m (upf g (a - (m + 1)) s)).map (fun f => s :: stR f (a - m) m) := by
      refine List.map_congr_left fun f hf => ?_
      have h1 := stT_keep a b m (by omega) _ f hf (a - (m + 1)) (by omega)
      rw [upf_at] at h1
      rw [stR, h1, ek]
    have e2 := ih (upf g (a - (m + 1)) s)
    rw [ek, mo_succ, upf_at, ← ek] at e2
    show (stT a b m (upf g (a - (m + 1)) s)).map (fun f => stR f (a - (m + 1)) (m + 1)) = _
    rw [e1, ← e2, List.map_map]
    rfl
theorem sts_brs (a b : Nat) : (brs a b).map (fun f => stR f 0 a) = sts b a := by
  have h := stT_sts a b a (Nat.le_refl _) (fun _ => 0)
  rw [Nat.sub_self, stT_all] at h
  exact h
theorem countP_sts {a b : Nat} {p : (Nat → Nat) → Bool} {q : List Nat → Bool} (h : ∀ f ∈ brs a b, p f = q (stR f 0 a)) : (brs a b).countP p = (sts b a).countP q := by
  rw [← sts_brs, List.countP_map]
  exact List.countP_congr fun f hf => by rw [h f hf]; rfl
theorem smB_itl {a b d : Nat} {f : Nat → Nat} (ha : 1 ≤ a ∧ a ≤ 6) (hb : 1 ≤ b ∧ b ≤ 6) (hf : f ∈ brs a b) : smB a b d f = (itl b d (stR f 0 a) == stR f 0 a) := by
  have hs := brs_S ha hb hf
  have hd := dayI_S hs d
  rw [itl_day]
  unfold smB
  rw [Bool.eq_iff_iff, decide_eq_true_eq, beq_iff_eq, eqG_iff ha.2 hd.zr hs.zr]
  exact ⟨fun e => by rw [e], fun e => fun_of hd.zr hs.zr e⟩
theorem sameN_sts {a b d : Nat} (ha : 1 ≤ a ∧ a ≤ 6) (hb : 1 ≤ b ∧ b ≤ 6) : sameN a b d = (sts b a).countP fun L => itl b d L == L := countP_sts fun f hf => smB_itl ha hb hf
/-- Only the greatest number that divides both counts. -/
theorem sameN_gcd {a b d : Nat} (ha : 1 ≤ a ∧ a ≤ 6) (hb : 1 ≤ b ∧ b ≤ 6) : sameN a b d = sameN a b (Nat.gcd (a + b) d) := by
  unfold sameN
  refine List.countP_congr fun f hf => ?_
  have hs := brs_S ha hb hf
  obtain ⟨T, hT⟩ := isT_ex hs
  have hper := Nat.dvd_of_mod_eq_zero (hT.per hs)
  unfold smB
  rw [decide_eq_true_eq, decide_eq_true_eq, eqG_iff ha.2 (dayI_S hs _).zr hs.zr, eqG_iff ha.2 (dayI_S hs _).zr hs.zr]
  constructor
  · intro e
    obtain ⟨q, hq⟩ := Nat.dvd_gcd hper (Nat.dvd_of_mod_eq_zero (hT.dvd d e))
    rw [hq, hT.mul q]
  · intro e
    obtain ⟨q, hq⟩ := Nat.dvd_trans (Nat.dvd_of_mod_eq_zero (hT.dvd _ e)) (Nat.gcd_dvd_right (a + b) d)
    rw [hq, hT.mul q]
/-- The number of ways, as it is computed. -/
def chN (n : Nat) : Nat → Nat
  | 0 => 1
  | i + 1 => chN n i * (n - i) / (i + 1)
def wantN (a b g : Nat) : Nat := if a * g % (a + b) = 0 then chN g (a * g / (a + b)) else 0
set_option maxRecDepth 100000 in
theorem sieve6 : ([1, 2, 3, 4, 5, 6].all fun a => [1, 2, 3, 4, 5, 6].all fun b => (List.range (a + b)).all fun g => (a + b) % (g + 1) != 0 || (sts b a).countP (fun L => itl b (g + 1) L == L) == wantN a b (g + 1)) = true := by decide +kernel
theorem sieve {a b d : Nat} (ha : 1 ≤ a ∧ a ≤ 6) (hb : 1 ≤ b ∧ b ≤ 6) : sameN a b d = wantN a b (Nat.gcd (a + b) d) := by
  rw [sameN_gcd ha hb, sameN_sts ha hb]
  have hg := Nat.gcd_dvd_left (a + b) d
  have hpos : 0 < Nat.gcd (a + b) d := Nat.gcd_pos_of_pos_left _ (by omega)
  have hle := Nat.le_of_dvd (by omega) hg
  generalize Nat.gcd (a + b) d = g at *
  obtain ⟨g, rfl⟩ : ∃ k, g = k + 1 := ⟨g - 1, by omega⟩
  have h := sieve6
  rw [List.all_eq_true] at h
  have h := h a (by simp; omega)
  rw [List.all_eq_true] at h
  have h := h b (by simp; omega)
  rw [List.all_eq_true] at h
  have h := h g (List.mem_range.2 (by omega))
  rw [Nat.mod_eq_zero_of_dvd hg] at h
  simpa using h
end Go.Proofs.Ytniknldeafmgaaa
