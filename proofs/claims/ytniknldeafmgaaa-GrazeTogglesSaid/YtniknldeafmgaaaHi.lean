/- Layer 8, by the program: pastureOfWord, Of. -/
import Derived.Test.YtniknldeafmgaaaJa
import Derived.Lib.ConvBytes
namespace Go.Proofs.Ytniknldeafmgaaa
set_option linter.unusedSimpArgs false
set_option linter.unusedVariables false
open Go Go.RowKit

/-- The state that is read from these letters, m rows being left and p columns passed. -/
def ofR : List UInt8 → Nat → Nat → (Nat → Nat) → Nat → Nat
  | [], _, _, g => g
  | c :: l, m, p, g => if c = 114 then ofR l m (p + 1) g else ofR l (m - 1) p (upf g (m - 1) p)
/-- The state that has the word. -/
def ofF (a : Nat) (l : List UInt8) : Nat → Nat := ofR l a 0 (fun _ => 0)
/-- A word for a rows and b columns. -/
structure IsW (a b : Nat) (l : List UInt8) : Prop where
  len : l.length = a + b
  us : l.count 117 = a
  rs : l.count 114 = b
theorem two_letters : ∀ l : List UInt8, l.count 117 + l.count 114 = l.length → ∀ c ∈ l, c = 117 ∨ c = 114
  | [], _, c, h => by cases h
  | x :: l, h, c, hc => by
    have h1 := List.count_le_length (a := (117 : UInt8)) (l := l)
    have h3 : l.count 117 + l.count 114 ≤ l.length := by
      clear h hc
      induction l with
      | nil => simp
      | cons y l ih =>
        have ih := ih (List.count_le_length)
        rw [List.count_cons, List.count_cons, List.length_cons]
        by_cases e1 : y = 117
        · subst e1; simp; omega
        · by_cases e2 : y = 114
          · subst e2; simp; omega
          · simp [e1, e2]; omega
    rw [List.count_cons, List.count_cons, List.length_cons] at h
    by_cases e1 : x = 117
    · subst e1
      have := two_letters l (by simp at h; omega)
      rcases List.mem_cons.1 hc with rfl | hc
      · exact .inl rfl
      · exact this c hc
    · by_cases e2 : x = 114
      · subst e2
        have := two_letters l (by simp at h; omega)
        rcases List.mem_cons.1 hc with rfl | hc
        · exact .inr rfl
        · exact this c hc
      · simp [e1, e2] at h; omega
theorem ofR_P {a b : Nat} : ∀ (l : List UInt8) (m p : Nat) (g : Nat → Nat), IsP a b g → p + l.count 114 ≤ b → IsP a b (ofR l m p g)
  | [], _, _, _, h, _ => h
  | c :: l, m, p, g, h, hp => by
    rw [List.count_cons] at hp
    unfold ofR
    split
    · rename_i e
      exact ofR_P l m (p + 1) g h (by subst e; simp at hp; omega)
    · refine ofR_P l (m - 1) p _ ⟨h.a1, h.a6, h.b1, h.b6, fun i => ?_⟩ (by omega)
      unfold upf
      split
      · omega
      · exact h.gb i
set_option maxRecDepth 100000 in
set_option maxHeartbeats 4000000 in
theorem pastureOfWord_yes (a b : Nat) (l : List UInt8) (w : World) (ha : 1 ≤ a ∧ a ≤ 6) (hb : 1 ≤ b ∧ b ≤ 6) (hw : IsW a b l) :
    Calls Try.prog 71 #[.int .i64 (a : Int), .int .i64 (b : Int), .string (bytesOf l)] w (Ret (.tuple #[pV a b (ofF a l), .bool true]) w) := by
  have hU := Lib.hid (fun w => by have := count_any (bytesOf l) 117 w; rw [show (bytesOf l).data.toList.count 117 = a from hw.us] at this; exact this)
  have hR := Lib.hid (fun w => by have := count_any (bytesOf l) 114 w; rw [show (bytesOf l).data.toList.count 114 = b from hw.rs] at this; exact this)
  have hsz : (bytesOf l).size = a + b := by rw [bytesOf_size, hw.len]
  have k0 := Lib.hid (Blk.new w 66 zC)
  have B := Lib.hid (b1 w (.cells zC 66))
  go_enter Try.func71, Try.ntmps71
  go_upto_region 5 with (first
    | (go_at_call 81; (with_reducible refine (hU.out _).mono ?_); rintro _ _ ⟨rfl, rfl⟩)
    | (go_at_call 81; (with_reducible refine (hR.out _).mono ?_); rintro _ _ ⟨rfl, rfl⟩))
  have k1 := Blk.new (w.alloc (.cells zC 66)) 66 (pC a b (fun _ => 0))
  rw [World.size_alloc] at k1
  replace k1 := Lib.hid k1
  replace k0 := Lib.hid (k0.out.alloc (.cells (pC a b (fun _ => 0)) 66))
  replace B := Lib.hid (b2 w (.cells zC 66) (.cells (pC a b (fun _ => 0)) 66))
  generalize (w.alloc (.cells zC 66)).alloc (.cells (pC a b (fun _ => 0)) 66) = W at *
  have hcv : ∀ W s, (convert 9 50 (.string s)).run Try.prog W = .ok (.slice (some ⟨W.heap.size, 0, none⟩) s.size (grownCap W s.size 0 5)) (Lib.bytesWorld W 5 s) := fun W s => Lib.run_convert_string_bytes W _ _ _ s Try.underlying9 Try.underlying50 Try.underlying5
  have hbw : Below W.heap.size W (Lib.bytesWorld W 5 (bytesOf l)) := ⟨rfl, rfl, rfl, by rw [Lib.bytesWorld_size]; omega, fun j hj => Lib.bytesWorld_at_old W 5 (bytesOf l) j hj⟩
  have hbc : Hid (∀ j, j < a + b → (Lib.bytesWorld W 5 (bytesOf l)).cell? ⟨W.heap.size, j, none⟩ = some (.int .u8 ((l.getD j 0).toNat : Int))) := Lib.hid (fun j hj => by exact Lib.bytesWorld_cell W 5 (bytesOf l) j (by rw [hsz]; exact hj))
  replace k0 := Lib.hid (k0.out.ext hbw)
  replace k1 := Lib.hid (k1.out.ext hbw)
  replace B := Lib.hid (nextB B.out hbw)
  clear hbw
  have hP0 : Hid (IsP a b (fun _ => 0)) := Lib.hid ⟨ha.1, ha.2, hb.1, hb.2, fun _ => by omega⟩
  have hlet := Lib.hid (two_letters l (by have := hw.us; have := hw.rs; have := hw.len; omega))
  have hus := Lib.hid hw.us
  have hrs := Lib.hid hw.rs
  have hln := Lib.hid hw.len
  have hF : Hid (ofF a l = ofR l a 0 (fun _ => 0)) := Lib.hid rfl
  obtain ⟨ha1, ha6⟩ := ha
  obtain ⟨hb1, hb6⟩ := hb
  have hPF : Hid (IsP a b (ofF a l)) := Lib.hid (ofR_P l a 0 _ hP0.out (by rw [hrs.out]; omega))
  generalize ofF a l = F at *
  clear hU hR hw
  go_wp2
  clear hcv
  generalize Lib.bytesWorld W 5 (bytesOf l) = W3 at *
  generalize grownCap W (a + b) 0 5 = gc at *
  generalize W.heap.size = C at *
  go_loopw [9, 10, 12, 40] (fun q p _ i wr => ∃ k m pn : Nat, ∃ y : Int, ∃ G : Nat → Nat, k ≤ a + b ∧ i = .int .i64 (k : Int) ∧ q = .int .i64 y ∧ y = (m : Int) - 1 ∧ p = .int .i64 (pn : Int) ∧ m ≤ a ∧ Hid ((l.drop k).count 117 = m) ∧ Hid (pn + (l.drop k).count 114 = b) ∧ Hid (IsP a b G) ∧ Hid (ofR (l.drop k) m pn G = F) ∧ Blk wr w.heap.size 66 zC ∧ Blk wr (w.heap.size + 1) 66 (pC a b G) ∧ Below w.heap.size w wr ∧ Hid (∀ j, j < a + b → wr.cell? ⟨C, j, none⟩ = some (.int .u8 ((l.getD j 0).toNat : Int)))) (fun _ _ _ i _ => a + b - (intOf i).toNat)
  case atStart => exact ⟨0, a, 0, _, _, by omega, rfl, rfl, rfl, rfl, Nat.le_refl _, Lib.hid hus.out, Lib.hid (by rw [List.drop_zero, Nat.zero_add]; exact hrs.out), hP0, Lib.hid hF.out.symm, k0.out, k1.out, B.out, hbc⟩
  case round =>
    clear k0 k1 B hbc
    obtain ⟨k, m, pn, y, G, hk, rfl, rfl, hy, rfl, hma, hcu, hcr, hPG, hof, k0, k1, B, hbc⟩ := hrel
    replace k0 := Lib.hid k0
    replace B := Lib.hid B
    by_cases hlt : k < a + b
    · have hlt' : (k : Int) < (a : Int) + (b : Int) := by omega
      have hkl : k < l.length := by rw [hln.out]; exact hlt
      have hdr : Hid (l.drop k = l.getD k 0 :: l.drop (k + 1)) := Lib.hid (by rw [List.drop_eq_getElem_cons hkl]; simp [hkl])
      have hmem : l.getD k 0 = 117 ∨ l.getD k 0 = 114 := hlet.out _ (by rw [List.getD_eq_getElem?_getD, List.getElem?_eq_getElem hkl]; exact List.getElem_mem hkl)
      have hx := hbc.out k hlt
      have h1 := hcu.out
      have h2 := hcr.out
      have h3 := hof.out
      rw [hdr.out, List.count_cons] at h1 h2
      rw [hdr.out] at h3
      clear hkl hdr
      rcases hmem with e | e
      · rw [e] at hx h1 h2 h3
        have hx' : wr.cell? ⟨C, k, none⟩ = some (.int .u8 117) := hx
        have h1' : (l.drop (k + 1)).count 117 + 1 = m := by simpa using h1
        have h2' : pn + (l.drop (k + 1)).count 114 = b := by simpa using h2
        have h3' : ofR (l.drop (k + 1)) (m - 1) pn (upf G (m - 1) pn) = F := h3
        obtain ⟨r, rfl⟩ : ∃ r, m = r + 1 := ⟨m - 1, by omega⟩
        rw [Nat.add_sub_cancel] at h3'
        obtain rfl : y = (r : Int) := by omega
        clear hy
        have hr6 : (r : Int) < 6 := by omega
        have hr0 : (0 : Int) ≤ (r : Int) := by omega
        have hpb : pn ≤ b := by omega
        have f1 := k1.fr
        have pg := k1.pg (i := r) (by omega)
        have m1 := Lib.hid (k1.setP (i := r) (by omega) pn)
        have m0 := Lib.hid (k0.out.other (B' := w.heap.size + 1) (i := 2 + r) (by omega) (.int .i64 (pn : Int)))
        have mB := Lib.hid (B.out.setCell (p := ⟨w.heap.size + 1, 2 + r, none⟩) (by simp) (.int .i64 (pn : Int)))
        have hC : w.heap.size + 1 ≠ C := fun e => by
          have h := k1.c 0 rfl
          have h2 := hbc.out 0 (by omega)
          rw [← e, h] at h2
          cases h2
        have hbc' : Hid (∀ j, j < a + b → (wr.setCell ⟨w.heap.size + 1, 2 + r, none⟩ (.int .i64 (pn : Int))).cell? ⟨C, j, none⟩ = some (.int .u8 ((l.getD j 0).toNat : Int))) := Lib.hid (fun j hj => by
          exact (grown_set wr (w.heap.size + 1) (2 + r) (.int .i64 (pn : Int))).cell (hbc.out j hj) (fun e => hC (by simpa using e.symm)))
        have hPG' : Hid (IsP a b (upf G r pn)) := Lib.hid ⟨ha1, ha6, hb1, hb6, fun i => by unfold upf; split; exact hpb; exact hPG.out.gb i⟩
        replace h1' := Lib.hid h1'
        replace h2' := Lib.hid h2'
        replace h3' := Lib.hid h3'
        clear k1 k0 B hx e h1 h2 h3 hbc hcu hcr hof hPG
        go_wp2
        go_roundw
        case rel => exact ⟨k + 1, r, pn, (r : Int) - 1, upf G r pn, by omega, by go_num, rfl, rfl, rfl, by omega, Lib.hid (by have := h1'.out; omega), h2', hPG', h3', m0.out, m1.out, mB.out, hbc'⟩
        case measure => simp [intOf]; omega
      · rw [e] at hx h1 h2 h3
        have hx' : wr.cell? ⟨C, k, none⟩ = some (.int .u8 114) := hx
        have h1' : (l.drop (k + 1)).count 117 = m := by simpa using h1
        have h2' : pn + ((l.drop (k + 1)).count 114 + 1) = b := by simpa using h2
        have h3' : ofR (l.drop (k + 1)) m (pn + 1) G = F := h3
        have hpb : pn ≤ b := by omega
        replace h1' := Lib.hid h1'
        replace h2' := Lib.hid h2'
        replace h3' := Lib.hid h3'
        replace k1 := Lib.hid k1
        clear hx e h1 h2 h3 hcu hcr hof
        go_wp2
        go_roundw
        case rel => exact ⟨k + 1, m, pn + 1, y, G, by omega, by go_num, rfl, hy, by go_num, hma, h1', Lib.hid (by have := h2'.out; omega), hPG, h3', k0.out, k1.out, B.out, hbc⟩
        case measure => simp [intOf]; omega
    · have hlt' : (a : Int) + (b : Int) ≤ (k : Int) := by omega
      have e : G = F := by
        have h3 := hof.out
        rw [List.drop_eq_nil_of_le (by rw [hln.out]; omega)] at h3
        exact h3
      rw [e] at k1
      obtain ⟨p0, p1, p2, p3, p4, p5, p6, p7⟩ := k1.pc
      have k0' := k0.out
      obtain ⟨r0, r1, r2, r3, r4, r5, r6, r7⟩ := k0'.zc
      have f0 := k0'.fr
      have X2 := Lib.hid (end_put (a := a) (b := b) (g := F) (w := w) (D := w.heap.size) (by omega) B.out k0')
      clear k0 k0' k1 B e hof hPG hcu hcr
      go_wp2
      exact bodyPost_ret (results_pe rfl X2.out.1 rfl rfl) rfl ⟨rfl, X2.out.2⟩
end Go.Proofs.Ytniknldeafmgaaa
