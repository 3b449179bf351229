/- BrandsBetween: Between and Frieze, by both sides; the table is new memory: the walk. -/
import Derived.Test.YtflbaadfbjpakaaGb
import Derived.Test.YtflbaadfbjpakaaMh
namespace Go.Proofs.Ytflbaadfbjpakaa
open Go Go.RowKit

/-- Between, by both sides, returns the same. -/
theorem between_both (a : Option Addr) (n cp : Nat) (i k : Int) (xs : List Int) (w : World) (h : Ints w a xs) (hn : xs.length = n) (hm : n ≤ 4611686018427387904) :
    ∃ x e : Int, ∀ W, Below w.heap.size w W → Calls Try.prog 30 #[.slice a n cp, .int .i64 i, .int .i64 k] W (Ret (.tuple #[.int .i64 x, .int .i64 e]) W) ∧
      Calls Try.prog 31 #[.slice a n cp, .int .i64 i, .int .i64 k] W (Only (.tuple #[.int .i64 x, .int .i64 e]) W) := by
  by_cases hB : BtwP xs i k
  · obtain ⟨hR, hC, h1, h2⟩ := hB
    obtain ⟨I, rfl⟩ : ∃ I : Nat, i = I := ⟨i.toNat, by have := hC.1; omega⟩
    obtain ⟨D, rfl⟩ : ∃ D : Nat, k = (I : Int) + D := ⟨(k - I).toNat, by omega⟩
    have hI : I < n := by have := hC.2; omega
    have hD : D ≤ n := by omega
    exact ⟨eD xs I D, 0, fun W hW => ⟨Between_yes a n cp I D xs W (h.next hW) hn hR hI hD, refBetween_yes a n cp I D xs W (h.next hW) hn hR hI hD⟩⟩
  · exact ⟨0, 2, fun W hW => ⟨Between_no a n cp i k xs W (h.next hW) hn hm hB, refBetween_no a n cp i k xs W (h.next hW) hn hm hB⟩⟩
theorem cell_other {w : World} {g G i j : Nat} {x v : Value} (h : w.cell? ⟨g, j, none⟩ = some x) (hne : g ≠ G) : (w.setCell ⟨G, i, none⟩ v).cell? ⟨g, j, none⟩ = some x := by
  have hb : (w.setCell ⟨G, i, none⟩ v).heap[g]? = w.heap[g]? := Below.heap_setCell w ⟨G, i, none⟩ v g (show g ≠ G from hne)
  exact (World.cell?_of_block (a := ⟨g, _, none⟩) hb).trans h
theorem ints_off {w : World} {g G i : Nat} {xs : List Int} {v : Value} (h : Ints w (some ⟨g, 0, none⟩) xs) (hne : g ≠ G) : Ints (w.setCell ⟨G, i, none⟩ v) (some ⟨g, 0, none⟩) xs := by
  rcases h with h | ⟨b, off, e, hc⟩
  · exact .inl h
  · cases e
    exact .inr ⟨g, 0, rfl, fun k hk => cell_other (hc k hk) hne⟩
/-- The rows of a table, as far as they lie in the table's own block. -/
def Lies (u : World) (t n : Nat) (G : List (Nat × Nat)) : Prop := ∀ s, s < G.length → u.cell? ⟨t, s, none⟩ = some (.slice (some ⟨(gth G s).1, 0, none⟩) n (gth G s).2)
theorem Lies.next {u u' : World} {t n : Nat} {G : List (Nat × Nat)} (h : Lies u t n G) (B : Below u.heap.size u u') : Lies u' t n G := fun s hs => cellB B (h s hs)
theorem Lies.set {u : World} {t n K : Nat} {v : Value} {G : List (Nat × Nat)} (h : Lies u t n G) (hne : t ≠ K) : Lies (u.setCell ⟨K, 0, none⟩ v) t n G := fun s hs => cell_other (h s hs) hne
/-- A table with its rows from r on. -/
def Whole (u : World) (t n : Nat) (xs : List Int) (G : List (Nat × Nat)) (r : Nat) : Prop := Lies u t n G ∧ ∀ s, r ≤ s → s < G.length → Ints u (some ⟨(gth G s).1, 0, none⟩) (rowT xs s n)
theorem Whole.next {u u' : World} {t n r : Nat} {xs : List Int} {G : List (Nat × Nat)} (h : Whole u t n xs G r) (B : Below u.heap.size u u') : Whole u' t n xs G r := ⟨h.1.next B, fun s h1 h2 => (h.2 s h1 h2).next B⟩
theorem Whole.set {u : World} {t n r r' K : Nat} {xs : List Int} {v : Value} {G : List (Nat × Nat)} (h : Whole u t n xs G r) (hr : r ≤ r') (ht : t ≠ K) (hne : ∀ s, r' ≤ s → s < G.length → (gth G s).1 ≠ K) : Whole (u.setCell ⟨K, 0, none⟩ v) t n xs G r' :=
  ⟨h.1.set ht, fun s h1 h2 => ints_off (h.2 s (by omega) h2) (hne s h1 h2)⟩
theorem whole_of {w : World} {base base' n k g c : Nat} {e : TypeId} {xs : List Int} {G : List (Nat × Nat)} (hT : Tab base n xs w G) (hk : G.length = k) (ho : w.ownsRow base' e 1 (.slice (some ⟨g, 0, none⟩) k c) k (rowsV n G)) : Whole w g n xs G 0 := by
  subst hk
  refine ⟨fun s hs => ?_, fun s _ hs => .inr ⟨_, 0, rfl, fun i hi => ?_⟩⟩
  · rw [ho.cellAt s (by omega), rowsV_get hs]
  · rw [rowT_len] at hi
    rw [Nat.zero_add, rowT_nth hi]
    exact (hT.1 s hs).2.2 i hi
/-- The rows from r on may be written to. -/
def FrzF (u : World) (G : List (Nat × Nat)) (r : Nat) : Prop := ∀ s, r ≤ s → s < G.length → (gth G s).1 < u.heap.size ∧ u.frozen? ⟨(gth G s).1, 0, none⟩ = false
theorem FrzF.next {u u' : World} {G : List (Nat × Nat)} {r : Nat} (h : FrzF u G r) (B : Below u.heap.size u u') : FrzF u' G r := fun s hs hs2 => by
  obtain ⟨h1, h2⟩ := h s hs hs2
  have := B.size
  exact ⟨by omega, (World.frozen?_of_block (a := ⟨(gth G s).1, 0, none⟩) (B.block _ h1)).trans h2⟩
theorem FrzF.set {u : World} {K r : Nat} {v : Value} {G : List (Nat × Nat)} (h : FrzF u G r) (hne : ∀ s, r < s → s < G.length → (gth G s).1 ≠ K) : FrzF (u.setCell ⟨K, 0, none⟩ v) G (r + 1) := fun s hs hs2 => by
  obtain ⟨h1, h2⟩ := h s (by omega) hs2
  have hb : (u.setCell ⟨K, 0, none⟩ v).heap[(gth G s).1]? = u.heap[(gth G s).1]? := Below.heap_setCell u ⟨K, 0, none⟩ v _ (hne s (by omega) hs2)
  exact ⟨by simpa [World.setCell] using h1, (World.frozen?_of_block (a := ⟨(gth G s).1, 0, none⟩) hb).trans h2⟩
set_option maxRecDepth 100000 in
set_option maxHeartbeats 4000000 in
theorem between_law (a : Option Addr) (len cap : Nat) (xs : List Int) (i k : Int) (w : World) (h : Ints w a xs) (hl : xs.length = len) (_hcap : len ≤ cap) (_hnil : a = none → cap = 0) :
    Calls Try.prog 5 #[.slice a len cap, .int .i64 i, .int .i64 k] w (Ret (.bool true) w) := by
  clear _hnil
  by_cases h60 : len ≤ 60
  · obtain ⟨x, f, hX⟩ := between_both a len cap i k xs w h hl (by omega)
    replace hX := Lib.hid hX
    by_cases hR : RoundP xs
    · have h3 := hR.1
      have h12 := hR.2.1
      rw [hl] at h3 h12
      obtain ⟨b, off, rfl, hc⟩ := ints_at h (by omega)
      rw [hl] at hc
      have RF := Lib.hid (fun W (hW : Below w.heap.size w W) => refFrieze_yes b off len cap xs W (h.next hW) hl hR (fun j hj => cellB hW (hc j hj)))
      have PF := Lib.hid (fun W (hW : Below w.heap.size w W) => Frieze_yes b off len cap xs W (h.next hW) hl hR (fun j hj => cellB hW (hc j hj)))
      clear h hl hc hR
      go_enter Try.func5, Try.ntmps5
      go_wp2_with fail
      refine (hX.out _ (Below.refl _ _)).1.mono ?_
      rintro e w1 ⟨rfl, hb1⟩
      dsimp only
      go_wp2_with fail
      refine (hX.out _ hb1).2.mono ?_
      rintro e w2 ⟨rfl, rfl⟩
      dsimp only
      clear hX
      go_wp2_with fail
      refine (RF.out _ hb1).mono ?_
      rintro e w3 ⟨vB, GB, rfl, hGB, hoB, hTB, hb3⟩
      dsimp only
      have hB0 := hb1.size
      have hB3 := hb3.size
      replace hb3 := nextB hb1 hb3
      obtain ⟨tb, cb, rfl⟩ := own_pos hoB (by omega)
      have hWB := Lib.hid (whole_of hTB hGB hoB)
      have hcb := (own_cap hoB).1
      have hcB := Lib.hid (fun s (hs : s < GB.length) => show len ≤ (gth GB s).2 from (hTB.1 s hs).2.1)
      clear hTB hoB hb1 hB0 hB3
      replace hWB := hWB.out
      go_wp2_with fail
      go_loopw [12] (fun i wr => ∃ t : Nat, t ≤ 2 ∧ i = .int .i64 t ∧ Whole wr tb len xs GB 0 ∧ Below w.heap.size w wr) (fun i _ => 2 - (intOf i).toNat)
      case atStart => exact ⟨0, by omega, rfl, hWB, hb3⟩
      case round =>
        clear hWB hb3
        obtain ⟨t, ht, rfl, hWB, hb3⟩ := hrel
        by_cases hlt : t < 2
        · go_wp2_with fail
          refine (PF.out _ hb3).mono ?_
          rintro e w4 ⟨vA, GA, rfl, hGA, hoA, hTA, hFA, hb4⟩
          dsimp only
          obtain ⟨ta, ca, rfl⟩ := own_pos hoA (by omega)
          have hca := (own_cap hoA).1
          have hWA := whole_of hTA hGA hoA
          have s1 := Lib.hid (fun s (hs : s < GA.length) => show ta ≠ (gth GA s).1 from fun e => hTA.apart (by omega) hGA.symm hoA hs (by rw [← e]; rfl))
          have s2 := Lib.hid (fun s (hs : s < GA.length) => show tb ≠ (gth GA s).1 from fun e => by
            have h1 := block_lt_of_cell (hWB.1 0 (by omega))
            have h2 := (hTA.1 s hs).1
            simp only [] at h1
            omega)
          have s3 := Lib.hid (fun s (hs : s < GA.length) q (hq : q < GB.length) => show (gth GB q).1 ≠ (gth GA s).1 from fun e => by
            rcases hWB.2 q (Nat.zero_le _) hq with h0 | ⟨b', o', e', h1⟩
            · rw [rowT_len] at h0; omega
            · cases e'
              have h1 := block_lt_of_cell (h1 0 (by rw [rowT_len]; omega))
              have h2 := (hTA.1 s hs).1
              simp only [] at h1
              omega)
          have s4 := Lib.hid (fun s q (h : s < q) (hq : q < GA.length) => show (gth GA q).1 ≠ (gth GA s).1 from by
            have := hTA.2 s q h hq
            omega)
          have s5 := Lib.hid (fun s (hs : s < GA.length) => show w.heap.size ≤ (gth GA s).1 from by
            have := (hTA.1 s hs).1
            have := hb3.size
            omega)
          have hg0 := Lib.hid (fun s (hs : s < GB.length) => show len ≤ (gth GB s).2 from hcB.out s hs)
          have hg1 := Lib.hid (fun s (hs : s < GA.length) => show len ≤ (gth GA s).2 from (hTA.1 s hs).2.1)
          have hF : FrzF w4 GA 0 := fun s _ hs => hFA s hs
          replace hWB := hWB.next hb4
          replace hb3 := nextB hb3 hb4
          clear hTA hoA hb4 hFA
          go_wp2_with fail
          go_loopw [15] (fun i wr => ∃ r : Nat, r ≤ len + 1 ∧ i = .int .i64 r ∧ Whole wr tb len xs GB 0 ∧ Whole wr ta len xs GA r ∧ FrzF wr GA r ∧ Below w.heap.size w wr) (fun i _ => len + 1 - (intOf i).toNat)
          case atStart => exact ⟨0, by omega, rfl, hWB, hWA, hF, hb3⟩
          case round =>
            clear hWB hWA hF hb3
            obtain ⟨r, hr, rfl, hWB, hWA, hF, hb3⟩ := hrel
            by_cases hlr : r < len + 1
            · have la := hWA.1 r (by omega)
              have lb := hWB.1 r (by omega)
              have S := Lib.hid (fun W (B : Below wr.heap.size wr W) => show Calls Try.prog 24 #[.slice (some ⟨(gth GA r).1, 0, none⟩) len (gth GA r).2, .slice (some ⟨(gth GB r).1, 0, none⟩) len (gth GB r).2] W (Ret (.bool true) W) from by
                have := same_any (some ⟨(gth GA r).1, 0, none⟩) (some ⟨(gth GB r).1, 0, none⟩) len len (gth GA r).2 (gth GB r).2 (rowT xs r len) (rowT xs r len) W ((hWA.2 r (Nat.le_refl _) (by omega)).next B) ((hWB.2 r (Nat.zero_le _) (by omega)).next B) (rowT_len _ _ _) (rowT_len _ _ _) (by omega) (by omega)
                rwa [decide_eq_true rfl] at this)
              obtain ⟨f1, f2⟩ := hF r (Nat.le_refl _) (by omega)
              have c1 : ∃ y : Int, wr.cell? ⟨(gth GA r).1, 0, none⟩ = some (.int .i64 y) := by
                rcases hWA.2 r (Nat.le_refl _) (by omega) with h0 | ⟨b', o', e', h1⟩
                · rw [rowT_len] at h0; omega
                · cases e'
                  exact ⟨_, h1 0 (by rw [rowT_len]; omega)⟩
              obtain ⟨y, hy⟩ := c1
              have t1 := s1.out r (by omega)
              have t2 := s2.out r (by omega)
              have t3 := s3.out r (by omega)
              have t4 := fun q (h : r < q) hq => s4.out r q h hq
              have t5 := s5.out r (by omega)
              have t6 := hg1.out r (by omega)
              replace t3 := Lib.hid t3
              replace t4 := Lib.hid t4
              have i0 : (0 : Int) ≤ (r : Int) := by omega
              have i1 : (r : Int) < (len : Int) + 1 := by omega
              generalize (gth GA r).2 = cA at *
              generalize hKK : (gth GA r).1 = K at *
              generalize (gth GB r).2 = cB at *
              generalize (gth GB r).1 = KB at *
              have la0 := la
              replace la := cellX la
              replace lb := cellX lb
              have PE := Lib.hid (fun (x : Ext wr) => S.out x.world x.ok)
              go_wp2_with fail
              refine wp_region_ext (by kernel_rfl) (by kernel_rfl) ?_
              repeat (go_big_quiet_step ((go_at_call 24; exact callE (PE.out _))))
              refine wpQuiet_nil ?_
              rintro ⟨w6, hw6⟩
              dsimp only
              clear la lb PE S
              have la := cellB hw6 la0
              have hy6 := cellB hw6 hy
              have f3 : w6.frozen? ⟨K, 0, none⟩ = false := (World.frozen?_of_block (a := ⟨K, 0, none⟩) (hw6.block _ f1)).trans f2
              have f4 : K < w6.heap.size := Nat.lt_of_lt_of_le f1 hw6.size
              replace hWA := hWA.next hw6
              replace hWB := hWB.next hw6
              replace hF := hF.next hw6
              replace hb3 := nextB hb3 hw6
              clear hw6 la0 hy f1 f2
              have l0 : (0 : Int) < (len : Int) := by omega
              go_wp2_with fail
              go_roundw
              case rel => exact ⟨r + 1, by omega, by go_num, hWB.set (Nat.le_refl _) t2 (fun q _ hq => t3.out q hq), hWA.set (by omega) t1 (fun q h1 h2 => t4.out q (by omega) h2), hF.set (fun q h1 h2 => t4.out q h1 h2), hb3.setCell t5 _⟩
              case measure => simp [intOf]; omega
            · obtain rfl : r = len + 1 := by omega
              go_wp2_with fail
              go_roundw
              case rel => exact ⟨t + 1, by omega, by go_num, hWB, hb3⟩
              case measure => simp [intOf]; omega
        · obtain rfl : t = 2 := by omega
          go_wp2_with (go_at_call 17; refine (alive_any _).mono ?_; rintro e w9 ⟨rfl, hb9⟩)
          go_ret
          exact Ret.mk rfl (nextB hb3 hb9)
    · have h2 := Lib.hid (fun W (hW : Below w.heap.size w W) => refFrieze_no a len cap xs W (h.next hW) hl (by omega) hR)
      have h3 := Lib.hid (fun W (hW : Below w.heap.size w W) => Frieze_no a len cap xs W (h.next hW) hl (by omega) hR)
      clear h hl hR
      go_enter Try.func5, Try.ntmps5
      go_wp2_with fail
      refine (hX.out _ (Below.refl _ _)).1.mono ?_
      rintro e w1 ⟨rfl, hb1⟩
      dsimp only
      go_wp2_with fail
      refine (hX.out _ hb1).2.mono ?_
      rintro e w2 ⟨rfl, rfl⟩
      dsimp only
      clear hX
      go_wp2_with fail
      refine (h2.out _ hb1).mono ?_
      rintro e w3 ⟨rfl, hb3⟩
      dsimp only
      replace hb3 := nextB hb1 hb3
      go_wp2_with fail
      go_loopw [12] (fun i wr => ∃ t : Nat, t ≤ 2 ∧ i = .int .i64 t ∧ Below w.heap.size w wr) (fun i _ => 2 - (intOf i).toNat)
      case atStart => exact ⟨0, by omega, rfl, hb3⟩
      case round =>
        clear hb3
        obtain ⟨t, ht, rfl, hb3⟩ := hrel
        by_cases hlt : t < 2
        · go_wp2_with fail
          refine (h3.out _ hb3).mono ?_
          rintro e w4 ⟨rfl, hb4⟩
          dsimp only
          replace hb3 := nextB hb3 hb4
          clear hb4
          go_wp2_with fail
          go_loopw [15] (fun i wr => i = .int .i64 0 ∧ Below w.heap.size w wr) (fun i _ => 0)
          case atStart => exact ⟨rfl, hb3⟩
          case round =>
            clear hb3
            obtain ⟨rfl, hb3⟩ := hrel
            go_wp2_with fail
            go_roundw
            case rel => exact ⟨t + 1, by omega, by go_num, hb3⟩
            case measure => simp [intOf]; omega
        · obtain rfl : t = 2 := by omega
          go_wp2_with (go_at_call 17; refine (alive_any _).mono ?_; rintro e w9 ⟨rfl, hb9⟩)
          go_ret
          exact Ret.mk rfl (nextB hb3 hb9)
  · have hgt : 60 < len := by omega
    clear h60 h hl
    go_enter Try.func5, Try.ntmps5
    go_wp2_with (go_at_call 17; refine (alive_any _).mono ?_; rintro e w2 ⟨rfl, hb2⟩)
    go_ret
    exact Ret.mk rfl hb2
end Go.Proofs.Ytflbaadfbjpakaa
