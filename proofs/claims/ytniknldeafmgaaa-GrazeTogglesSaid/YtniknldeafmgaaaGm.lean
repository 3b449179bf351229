/- Layer 8, by the program: pastures, all of them. -/
import Derived.Test.YtniknldeafmgaaaGl
namespace Go.Proofs.Ytniknldeafmgaaa
set_option linter.unusedSimpArgs false
set_option linter.unusedVariables false
open Go Go.RowKit

def oneF (k C : Nat) (f : Nat → Nat) : List (Nat → Nat) := (List.range (mo C f k + 1)).map (upf f k)
/-- The bars of k rows. -/
def brs : Nat → Nat → List (Nat → Nat)
  | 0, _ => [fun _ => 0]
  | k + 1, C => (brs k C).flatMap (oneF k C)
/-- A bar of at most k rows and C columns. -/
def IsK (k C : Nat) (f : Nat → Nat) : Prop := (∀ i, f i ≤ C) ∧ ∀ i, k ≤ i → f i = 0
theorem IsK.most {k C : Nat} {f : Nat → Nat} (h : IsK k C f) : mo C f k ≤ C := by unfold mo; split; omega; exact h.1 _
theorem IsK.put {k C s : Nat} {f : Nat → Nat} (h : IsK k C f) (hs : s ≤ C) : IsK (k + 1) C (upf f k s) := by
  refine ⟨fun i => ?_, fun i hi => ?_⟩
  · unfold upf; split; exact hs; exact h.1 i
  · unfold upf; rw [if_neg (by omega)]; exact h.2 i (by omega)
theorem brs_isK : ∀ (k C : Nat) (f : Nat → Nat), f ∈ brs k C → IsK k C f
  | 0, C, f, h => by
    rw [brs, List.mem_singleton] at h
    subst h
    exact ⟨fun i => Nat.zero_le _, fun i _ => rfl⟩
  | k + 1, C, f, h => by
    rw [brs, List.mem_flatMap] at h
    obtain ⟨g, hg, hf⟩ := h
    have hk := brs_isK k C g hg
    unfold oneF at hf
    obtain ⟨s, hs, rfl⟩ := List.mem_map.1 hf
    exact hk.put (by have := List.mem_range.1 hs; have := hk.most; omega)
theorem flat_len {α β : Type} (g : α → List β) (m : Nat) : ∀ l : List α, (∀ x ∈ l, (g x).length ≤ m) → (l.flatMap g).length ≤ l.length * m
  | [], _ => by simp
  | x :: l, h => by
    have h1 := h x (by simp)
    have h2 := flat_len g m l (fun y hy => h y (by simp [hy]))
    rw [List.flatMap_cons, List.length_append, List.length_cons, Nat.add_mul]
    omega
theorem brs_len : ∀ (k C : Nat), C ≤ 7 → (brs k C).length ≤ 8 ^ k
  | 0, C, _ => by simp [brs]
  | k + 1, C, h => by
    have h1 := brs_len k C h
    have h2 := flat_len (oneF k C) 8 (brs k C) (fun f hf => by
      have := (brs_isK k C f hf).most
      unfold oneF
      simp; omega)
    rw [brs, Nat.pow_succ]
    have := Nat.mul_le_mul_right 8 h1
    omega
theorem brs_lt {k C : Nat} (hk : k ≤ 6) (hC : C ≤ 7) : (brs k C).length ≤ 262144 := by
  have h1 := brs_len k C hC
  have h2 := Nat.pow_le_pow_right (n := 8) (by omega) hk
  have h3 : 8 ^ 6 = 262144 := rfl
  omega
/-- The bars made of the first j of k rows. -/
def brT (k C j : Nat) : List (Nat → Nat) := ((brs k C).take j).flatMap (oneF k C)
def brU (k C j : Nat) (f : Nat → Nat) (s : Nat) : List (Nat → Nat) := brT k C j ++ (List.range s).map (upf f k)
theorem brU_succ (k C j : Nat) (f : Nat → Nat) (s : Nat) : brU k C j f (s + 1) = brU k C j f s ++ [upf f k s] := by unfold brU; rw [List.range_succ, List.map_append, List.append_assoc]; rfl
theorem brT_succ {k C j : Nat} (h : j < (brs k C).length) : brT k C (j + 1) = brU k C j (fAt (brs k C) j) (mo C (fAt (brs k C) j) k + 1) := by
  unfold brU brT
  rw [List.take_succ_eq_append_getElem h, List.flatMap_append]
  have e : (brs k C)[j] = fAt (brs k C) j := by simp [fAt, h]
  rw [e]; simp [oneF]
theorem brT_all (k C : Nat) : brT k C (brs k C).length = brs (k + 1) C := by unfold brT; rw [List.take_length]; rfl
theorem brT_len (k C j : Nat) (hC : C ≤ 7) : (brT k C j).length ≤ (brs k C).length * 8 := by
  have h2 := flat_len (oneF k C) 8 ((brs k C).take j) (fun f hf => by
    have := (brs_isK k C f (List.mem_of_mem_take hf)).most
    unfold oneF
    simp; omega)
  have h3 : ((brs k C).take j).length ≤ (brs k C).length := by rw [List.length_take]; omega
  have := Nat.mul_le_mul_right 8 h3
  unfold brT
  omega
theorem put_zero {k C : Nat} {f : Nat → Nat} (h : IsK k C f) : upf f k 0 = f := by
  funext i
  unfold upf
  split
  · rename_i e; rw [e, h.2 k (Nat.le_refl _)]
  · rfl
theorem brs_P {a b k : Nat} {f : Nat → Nat} (ha : 1 ≤ a ∧ a ≤ 6) (hb : 1 ≤ b ∧ b ≤ 6) (h : IsK k b f) : IsP a b f := ⟨ha.1, ha.2, hb.1, hb.2, h.1⟩
set_option maxRecDepth 100000 in
set_option maxHeartbeats 4000000 in
theorem pastures_any (R C : Nat) (w : World) (hR1 : 1 ≤ R) (hC1 : 1 ≤ C) (hR : R ≤ 6) (hC6 : C ≤ 6) : Calls Try.prog 72 #[.int .i64 (R : Int), .int .i64 (C : Int)] w (NewP R C (brs R C) w) := by
  obtain ⟨i0, hi, hz0, hz1, hz2⟩ := info_parts infoP
  have G0 := Lib.hid hi
  have G1 := Lib.hid hz0
  have G2 := Lib.hid hz1
  have G3 := Lib.hid hz2
  clear hi hz0 hz1 hz2
  have hstart := Lib.hid (World.ownsRow_lit (base := w.heap.size) (e := 66) (size := 8) w (pC R C (fun _ => 0)) 1 (Nat.le_refl _) (by unfold maxLen; omega) rfl)
  go_enter Try.func72, Try.ntmps72
  go_wp2
  go_loopw [5, 6, 7, 9, 10, 16] (fun v _ _ _ _ i wr => ∃ k : Nat, k ≤ R ∧ i = .int .i64 k ∧ wr.ownsRow w.heap.size 66 8 v (brs k C).length (pL R C (brs k C)) ∧ Below w.heap.size w wr) (fun _ _ _ _ _ i _ => R - (intOf i).toNat)
  case atStart => exact ⟨0, by omega, rfl, hstart.out, (Below.refl _ _).alloc (Nat.le_refl _) _⟩
  case round =>
    clear hstart
    obtain ⟨k, hk, rfl, hown, B⟩ := hrel
    obtain ⟨a, cap, rfl, hcap, hH⟩ := own_past hown rfl
    by_cases hlt : k < R
    · have hlt' : (k : Int) < (R : Int) := by omega
      have hk6 : k < 6 := by omega
      have hlen : (brs k C).length ≤ 262144 := brs_lt (by omega) (by omega)
      have hsz := B.size
      have hfl := Lib.hid hown.lt
      obtain ⟨N, hN⟩ : ∃ N, Hid ((brs k C).length = N) := ⟨_, Lib.hid rfl⟩
      rw [hN.out] at hH hcap hlen ⊢
      have hH := Lib.hid hH
      clear hown
      go_wp2
      generalize wr = w1 at *
      go_loopw [7, 9, 10, 21] (fun v _ _ j wr => ∃ m : Nat, m ≤ N ∧ j = .int .i64 m ∧ wr.ownsRow w1.heap.size 66 8 v (brT k C m).length (pL R C (brT k C m)) ∧ Below w1.heap.size w1 wr) (fun _ _ _ j _ => N - (intOf j).toNat)
      case atStart => exact ⟨0, by omega, rfl, World.ownsRow_nil _ _ _ _, Below.refl _ _⟩
      case round =>
        obtain ⟨m, hm, rfl, hown, B1⟩ := hrel
        by_cases hlm : m < N
        · have hlm' : (m : Int) < (N : Int) := by omega
          have hml : m < (brs k C).length := by rw [hN.out]; exact hlm
          obtain ⟨g, rfl, hg1, hgb⟩ := hH.out (by omega)
          have hglt : g < w1.heap.size := (hfl.out g rfl).2
          have hgb2 : PBlk wr g R C (brs k C) := hgb.keep (fun _ z => (B1.block g hglt).trans z)
          obtain ⟨c0, c1, c2, c3, c4, c5, c6, c7⟩ := hgb2.pc (i := m) hml
          have hK := brs_isK k C _ (fAt_mem hml)
          have hsu := Lib.hid (brT_succ hml)
          have hus := Lib.hid (fun s => brU_succ k C m (fAt (brs k C) m) s)
          have hu0 : Hid (brU k C m (fAt (brs k C) m) 0 = brT k C m) := Lib.hid (by simp [brU])
          have hul : Hid (∀ s, (brU k C m (fAt (brs k C) m) s).length ≤ 2097152 + s) := Lib.hid (fun s => by have h1 := brT_len k C m (by omega : C ≤ 7); rw [hN.out] at h1; rw [brU, List.length_append, List.length_map, List.length_range]; omega)
          obtain ⟨f, hf⟩ : ∃ f, Hid (fAt (brs k C) m = f) := ⟨_, Lib.hid rfl⟩
          rw [hf.out] at c2 c3 c4 c5 c6 c7 hK hsu hus hu0 hul
          have hmost := hK.most
          have hput := Lib.hid (put_zero hK)
          have hPf := Lib.hid (brs_P (a := R) ⟨hR1, hR⟩ ⟨hC1, hC6⟩ hK)
          obtain ⟨M, hM⟩ : ∃ M, Hid (mo C f k = M) := ⟨_, Lib.hid rfl⟩
          rw [hM.out] at hmost hsu
          clear hgb hgb2 hml hK
          obtain ⟨U, hU⟩ : ∃ U : Nat → List (Nat → Nat), Hid (∀ s, brU k C m f s = U s) := ⟨_, Lib.hid fun _ => rfl⟩
          replace hsu : Hid (brT k C (m + 1) = U (M + 1)) := Lib.hid (by rw [hsu.out, hU.out])
          replace hus : Hid (∀ s, U (s + 1) = U s ++ [upf f k s]) := Lib.hid (fun s => by rw [← hU.out, ← hU.out, hus.out])
          replace hu0 : Hid (U 0 = brT k C m) := Lib.hid (by rw [← hU.out, hu0.out])
          replace hul : Hid (∀ s, (U s).length ≤ 2097152 + s) := Lib.hid (fun s => by rw [← hU.out]; exact hul.out s)
          have hbx := Lib.hid (Blk.new wr 66 (pC R C f))
          have hv0 : Hid (∀ v : Value, wr.ownsRow w1.heap.size 66 8 v (brT k C m).length (pL R C (brT k C m)) → v.ownBlock ≠ some wr.heap.size) := Lib.hid (fun v hv e => by have := (hv.lt _ e).2; omega)
          have hsz1 := B1.size
          have hnb := Lib.hid (hv0.out _ hown)
          have hown2 := Lib.hid (hown.alloc (.cells (pC R C f) 66))
          have hBa := Lib.hid (B1.alloc hsz1 (.cells (pC R C f) 66))
          have hMo := Lib.hid (fun w => by have := most_any R C f k w hPf.out hk6; rwa [hM.out] at this)
          clear B1 hm hown hv0
          go_upto_region 9 with (fail)
          clear c0 c1 c2 c3 c4 c5 c6 c7
          obtain ⟨b, hbs⟩ : ∃ b, Hid (wr.heap.size = b) := ⟨_, Lib.hid rfl⟩
          rw [hbs.out] at hbx hnb hsz1 ⊢
          have hbw : w1.heap.size ≤ b := hsz1
          generalize wr.alloc (.cells (pC R C f) 66) = w2 at *
          obtain ⟨e0, e1, e2, e3, e4, e5, e6, e7⟩ := hbx.out.pc
          go_wp2_with (go_at_call 74; (with_reducible refine (hMo.out _).mono ?_); rintro _ w4 ⟨rfl, hw4⟩)
          replace hown2 := Lib.hid (owns_next hown2.out hw4)
          replace hbx := Lib.hid (hbx.out.ext hw4)
          replace hBa := Lib.hid (hBa.out.trans (hw4.mono hBa.out.size))
          clear e0 e1 e2 e3 e4 e5 e6 e7 hw4
          go_loopw [7, 10, 29] (fun v _ i w3 => ∃ s : Nat, s ≤ M + 1 ∧ i = .int .i64 s ∧ w3.ownsRow w1.heap.size 66 8 v (U s).length (pL R C (U s)) ∧ v.ownBlock ≠ some b ∧ Blk w3 b 66 (pC R C (upf f k (s - 1))) ∧ Below w1.heap.size w1 w3) (fun _ _ i _ => M + 1 - (intOf i).toNat)
          case atStart => exact ⟨0, by omega, rfl, by rw [hu0.out]; exact hown2.out, hnb.out, by rw [Nat.zero_sub, hput.out]; exact hbx.out, hBa.out⟩
          case round =>
            clear hbx hBa hown2
            obtain ⟨s, hs, rfl, hown, hnb', hB, B1⟩ := hrel
            by_cases hls : s < M + 1
            · have hls' : (s : Int) < (M : Int) + 1 := by omega
              have z0 := hB.pg (i := k) hk6
              have zf := hB.fr
              have hbk := hB.setP (i := k) hk6 s
              have eup : upf (upf f k (s - 1)) k s = upf f k s := by
                funext i; unfold upf; split <;> rfl
              rw [eup] at hbk
              replace hbk := Lib.hid hbk
              have hB1 := Lib.hid (B1.setCell (p := ⟨b, 2 + k, none⟩) hbw (.int .i64 (s : Int)))
              have hownS := Lib.hid (hown.kept (grown_set _ b (2 + k) (.int .i64 (s : Int))) (.inr hnb'))
              replace hnb' := Lib.hid hnb'
              clear hB hown eup
              go_upto_region 13 with (fail)
              have hus1 := Lib.hid (hus.out s)
              have hlu := hul.out s
              have hsb := hB1.out.size
              generalize wr.setCell ⟨b, 2 + k, none⟩ (.int .i64 (s : Int)) = V at *
              obtain ⟨d0, d1, d2, d3, d4, d5, d6, d7⟩ := hbk.out.pc
              obtain ⟨n, hn⟩ : ∃ n, Hid ((U s).length = n) := ⟨_, Lib.hid rfl⟩
              have hownN := Lib.hid hownS.out
              rw [hn.out] at hlu hownN
              obtain ⟨a', cap', rfl, hcap', hH'⟩ := own_past hownN.out hn.out
              replace hH' := Lib.hid hH'
              have hsz3 : w1.heap.size ≤ V.heap.size := hsb
              have hbV := hbk.out.lt
              have hc8 := Lib.hid (cell8_new V R C (upf f k s) 66)
              clear hbs hls z0 zf
              have hsM : n + 1 ≤ 3000000 := by omega
              obtain ⟨fs, hfs⟩ : ∃ fs, Hid (upf f k s = fs) := ⟨_, Lib.hid rfl⟩
              rw [hfs.out] at d2 d3 d4 d5 d6 d7 hc8 hbk hus1
              go_wp2_with (at_builtin; refine wpList_append_ownX _ rfl _ _ 79 rfl w1.heap.size 66 i0 (.agg zC) 8 64 Try.underlying79 G0.out G1.out G2.out G3.out rfl (by decide) _ _ _ rfl (hownN.out.alloc _) ⟨_, 0, none⟩ 1 1 (pC R C fs).toList rfl rfl (by decide) hc8.out (by simp [Value.oneCell']) (by unfold maxLen; omega) (by omega) (by simp; omega) ?_; intro v' w5 hown5 hgrow hfr5)
              have B5 := (hB1.out.alloc hsz3 _).grown hgrow (by simp; omega) (fun q hq => by have := (hownN.out.lt q hq).1; omega)
              have hB5 := blk_grown (hbk.out.alloc _) hgrow (fun e => hnb'.out e.symm)
              have hnb5 : v'.ownBlock ≠ some b := fun e => by
                rcases hfr5 with h | h
                · exact hnb'.out (h ▸ e)
                · have := h b e
                  simp at this
                  omega
              go_roundw
              case rel => exact ⟨s + 1, by omega, by go_num, (by rw [hus1.out, List.length_append, pL_snoc]; show World.ownsRow _ _ _ _ _ ((U s).length + 1) _; rw [hn.out]; exact hown5), hnb5, (by rw [Nat.add_sub_cancel, hfs.out]; exact hB5), B5⟩
              case measure => simp [intOf]; omega
            · obtain rfl : s = M + 1 := by omega
              have hls' : (M : Int) + 1 ≤ ((M + 1 : Nat) : Int) := by omega
              replace hown := Lib.hid hown
              replace hnb' := Lib.hid hnb'
              clear hB
              go_wp2
              go_roundw
              case rel => exact ⟨m + 1, by omega, by go_num, by rw [hsu.out]; exact hown.out, B1⟩
              case measure => simp [intOf]; omega
        · obtain rfl : m = N := by omega
          have hall : Hid (brT k C m = brs (k + 1) C) := Lib.hid (by rw [← hN.out]; exact brT_all k C)
          have hown' := Lib.hid (owns_base hown hsz)
          clear hown
          go_wp2
          go_roundw
          case rel => exact ⟨k + 1, by omega, by go_num, by rw [← hall.out]; exact hown'.out, nextB B B1⟩
          case measure => simp [intOf]; omega
    · obtain rfl : k = R := by omega
      replace hH := Lib.hid hH
      clear hown
      go_wp2
      go_ret
      exact ⟨a, cap, rfl, hcap, hH.out, B⟩
end Go.Proofs.Ytniknldeafmgaaa
