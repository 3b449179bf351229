/- Layer 4, by the program: the side of a letter; a field, a position and who is next. -/
import Derived.Test.YtbdhceolchhnjaaDoorAp
import Derived.Test.YtbdhceolchhnjaaDoorAr
namespace Go.Proofs.YtbdhceolchhnjaaDoor
open Go Go.RowKit

def isSide (s : ByteArray) : Bool := strW.toList == s.toList || strD.toList == s.toList
/-- The side of a letter. -/
def sideN (s : ByteArray) : Nat := if strW.toList == s.toList then 0 else if strD.toList == s.toList then 1 else 0
theorem sideN_lt (s : ByteArray) : sideN s < 2 := by
  unfold sideN
  repeat' split
  all_goals omega
set_option maxRecDepth 100000 in
theorem sideOf_any (s : ByteArray) (w : World) : Calls Tryd.prog 70 #[.string s] w (Ret (.tuple #[.int .i64 (sideN s : Nat), .bool (isSide s)]) w) := by
  have L0 := Lib.hid (fun W => letter_any 0 (by omega) W)
  have L1 := Lib.hid (fun W => letter_any 1 (by omega) W)
  have l0 : ltr 0 = strW := rfl
  have l1 : ltr 1 = strD := rfl
  rw [l0] at L0
  rw [l1] at L1
  have e0 : ((0 : Nat) : Int) = 0 := rfl
  have e1 : ((1 : Nat) : Int) = 1 := rfl
  rw [e0] at L0
  rw [e1] at L1
  clear l0 l1 e0 e1
  unfold sideN isSide
  generalize strW = a at *
  generalize strD = b at *
  cases ha : a.toList == s.toList
  · cases hb : b.toList == s.toList
    · show Calls _ _ _ _ (Ret (.tuple #[.int .i64 0, .bool false]) w)
      go_enter Tryd.func70, Tryd.ntmps70
      go_wp2
      go_loopw [5, 8] (fun _ i wr => ∃ k : Nat, k ≤ 2 ∧ i = .int .i64 k ∧ Blk wr w.heap.size 63 #[.int .i64 0, .int .i64 1] ∧ Below w.heap.size w wr) (fun _ i _ => 2 - (intOf i).toNat)
      case atStart => exact ⟨0, by omega, rfl, Blk.new w _ _, b1 w _⟩
      case round =>
        obtain ⟨k, hk, rfl, hB, B0⟩ := hrel
        have x0 : wr.cell? ⟨w.heap.size, 0, none⟩ = some (.int .i64 0) := hB.c 0 rfl
        have x1 : wr.cell? ⟨w.heap.size, 1, none⟩ = some (.int .i64 1) := hB.c 1 rfl
        replace hB := Lib.hid hB
        obtain rfl | rfl | rfl : k = 0 ∨ k = 1 ∨ k = 2 := by omega
        · go_wp2_with (first | (go_at_call 43; refine (L0.out _).mono ?_; rintro e w2 ⟨rfl, rfl⟩) | (go_at_call 43; refine (L1.out _).mono ?_; rintro e w2 ⟨rfl, rfl⟩))
          go_roundw
          case rel => exact ⟨1, by omega, by go_num, hB.out, B0⟩
          case measure => simp [intOf]
        · go_wp2_with (first | (go_at_call 43; refine (L0.out _).mono ?_; rintro e w2 ⟨rfl, rfl⟩) | (go_at_call 43; refine (L1.out _).mono ?_; rintro e w2 ⟨rfl, rfl⟩))
          go_roundw
          case rel => exact ⟨2, by omega, by go_num, hB.out, B0⟩
          case measure => simp [intOf]
        · go_wp2
          go_ret2
          exact Ret.mk rfl B0
    · show Calls _ _ _ _ (Ret (.tuple #[.int .i64 1, .bool true]) w)
      go_enter Tryd.func70, Tryd.ntmps70
      go_wp2
      go_loopw [5, 8] (fun _ i wr => ∃ k : Nat, k ≤ 1 ∧ i = .int .i64 k ∧ Blk wr w.heap.size 63 #[.int .i64 0, .int .i64 1] ∧ Below w.heap.size w wr) (fun _ i _ => 2 - (intOf i).toNat)
      case atStart => exact ⟨0, by omega, rfl, Blk.new w _ _, b1 w _⟩
      case round =>
        obtain ⟨k, hk, rfl, hB, B0⟩ := hrel
        have x0 : wr.cell? ⟨w.heap.size, 0, none⟩ = some (.int .i64 0) := hB.c 0 rfl
        have x1 : wr.cell? ⟨w.heap.size, 1, none⟩ = some (.int .i64 1) := hB.c 1 rfl
        replace hB := Lib.hid hB
        obtain rfl | rfl : k = 0 ∨ k = 1 := by omega
        · go_wp2_with (first | (go_at_call 43; refine (L0.out _).mono ?_; rintro e w2 ⟨rfl, rfl⟩) | (go_at_call 43; refine (L1.out _).mono ?_; rintro e w2 ⟨rfl, rfl⟩))
          go_roundw
          case rel => exact ⟨1, by omega, by go_num, hB.out, B0⟩
          case measure => simp [intOf]
        · go_wp2_with (first | (go_at_call 43; refine (L0.out _).mono ?_; rintro e w2 ⟨rfl, rfl⟩) | (go_at_call 43; refine (L1.out _).mono ?_; rintro e w2 ⟨rfl, rfl⟩))
          go_ret2
          exact Ret.mk rfl B0
  · show Calls _ _ _ _ (Ret (.tuple #[.int .i64 0, .bool true]) w)
    go_enter Tryd.func70, Tryd.ntmps70
    go_wp2
    go_loopw [5, 8] (fun _ i wr => ∃ k : Nat, k ≤ 0 ∧ i = .int .i64 k ∧ Blk wr w.heap.size 63 #[.int .i64 0, .int .i64 1] ∧ Below w.heap.size w wr) (fun _ i _ => 2 - (intOf i).toNat)
    case atStart => exact ⟨0, by omega, rfl, Blk.new w _ _, b1 w _⟩
    case round =>
      obtain ⟨k, hk, rfl, hB, B0⟩ := hrel
      have x0 : wr.cell? ⟨w.heap.size, 0, none⟩ = some (.int .i64 0) := hB.c 0 rfl
      have x1 : wr.cell? ⟨w.heap.size, 1, none⟩ = some (.int .i64 1) := hB.c 1 rfl
      replace hB := Lib.hid hB
      obtain rfl : k = 0 := by omega
      go_wp2_with (first | (go_at_call 43; refine (L0.out _).mono ?_; rintro e w2 ⟨rfl, rfl⟩) | (go_at_call 43; refine (L1.out _).mono ?_; rintro e w2 ⟨rfl, rfl⟩))
      go_ret2
      exact Ret.mk rfl B0
/- The error of a field, a position and who is next. -/
def tE (x : Int) (R : List Int) (s t : ByteArray) : Nat := if pE x R s = 0 then (if isSide t = true then 0 else 5) else pE x R s
theorem tE_lt (x : Int) (R : List Int) (s t : ByteArray) : tE x R s t < 6 := by
  have := pE_lt x R s
  unfold tE
  repeat' split
  all_goals omega
abbrev noTurn : Value := .agg #[.int .i64 0, .int .i64 0, .int .i64 0]
theorem pE_ok {x : Int} {R : List Int} {s : ByteArray} (h : pE x R s = 0) : x = (x.toNat : Int) ∧ FieldP x.toNat R ∧ s.size = x.toNat ∧ okS s = true := by
  unfold pE at h
  split at h
  · rename_i h1
    obtain ⟨h2, h3⟩ := fE_ok h1
    split at h
    · rename_i h4; exact ⟨h2, h3, by omega, h4.2⟩
    · omega
  · rename_i h1; exact absurd h h1
set_option maxRecDepth 100000 in
set_option maxHeartbeats 4000000 in
theorem fieldOnTurn_any (x : Int) (a : Option Addr) (n c : Nat) (R : List Int) (s t : ByteArray) (w : World) (h : Ints w a R) (hn : R.length = n) :
    Calls Tryd.prog 40 #[.int .i64 x, .slice a n c, .string s, .string t] w (Ret (.tuple #[if tE x R s t = 0 then fV x.toNat a n c else noField, if tE x R s t = 0 then tV (psB s 119 x.toNat) (psB s 100 x.toNat) (sideN t) else noTurn, .int .i64 (tE x R s t : Nat)]) w) := by
  have hA : Blk ((w.alloc (.cells #[.int .i64 0, .slice none 0 0] 60)).alloc (.cells #[.int .i64 0, .int .i64 0, .int .i64 0] 65)) w.heap.size 60 #[.int .i64 0, .slice none 0 0] := (Blk.new w 60 #[.int .i64 0, .slice none 0 0]).alloc (.cells #[.int .i64 0, .int .i64 0, .int .i64 0] 65)
  have hP : Blk ((w.alloc (.cells #[.int .i64 0, .slice none 0 0] 60)).alloc (.cells #[.int .i64 0, .int .i64 0, .int .i64 0] 65)) (w.heap.size + 1) 65 #[.int .i64 0, .int .i64 0, .int .i64 0] := by
    have := Blk.new (w.alloc (.cells #[.int .i64 0, .slice none 0 0] 60)) 65 #[.int .i64 0, .int .i64 0, .int .i64 0]
    simpa using this
  have hb := b2 w (.cells #[.int .i64 0, .slice none 0 0] 60) (.cells #[.int .i64 0, .int .i64 0, .int .i64 0] 65)
  have hI := Lib.hid (h.next hb)
  have F := Lib.hid (fun W hW => fieldAt_any x a n c R s W hW hn)
  obtain ⟨e1, he1⟩ : ∃ e, Hid (pE x R s = e) := ⟨_, Lib.hid rfl⟩
  obtain ⟨e2, he2⟩ : ∃ e, Hid (tE x R s t = e) := ⟨_, Lib.hid rfl⟩
  obtain ⟨f1, hf1⟩ : ∃ f, Hid ((if e2 = 0 then fV x.toNat a n c else noField) = f) := ⟨_, Lib.hid rfl⟩
  obtain ⟨g1, hp1⟩ : ∃ p, Hid ((if e2 = 0 then tV (psB s 119 x.toNat) (psB s 100 x.toNat) (sideN t) else noTurn) = p) := ⟨_, Lib.hid rfl⟩
  rw [he1.out] at F
  rw [he2.out, hf1.out, hp1.out]
  have hpe : Hid (e2 = if e1 = 0 then (if isSide t = true then 0 else 5) else e1) := Lib.hid (by rw [← he2.out, ← he1.out]; rfl)
  have he4 : e1 < 6 := by rw [← he1.out]; exact pE_lt x R s
  clear h
  by_cases h1 : e1 = 0
  · subst h1
    simp only [if_true] at F
    obtain ⟨hx, _⟩ := pE_ok he1.out
    obtain ⟨m, hm⟩ : ∃ m, x.toNat = m := ⟨_, rfl⟩
    rw [hm] at hx
    subst hx
    have SO := Lib.hid (fun W => sideOf_any t W)
    clear hm
    rw [Int.toNat_natCast] at F
    cases hs : isSide t
    · have e5 : Hid (e2 = 5) := Lib.hid (by rw [hpe.out, if_pos rfl, if_neg (by rw [hs]; simp)])
      have f5 : Hid (f1 = noField) := Lib.hid (by rw [← hf1.out, if_neg (by rw [e5.out]; omega)])
      have p5 : Hid (g1 = noTurn) := Lib.hid (by rw [← hp1.out, if_neg (by rw [e5.out]; omega)])
      rw [e5.out, f5.out, p5.out]
      rw [hs] at SO
      generalize sideN t = sn at *
      generalize psB s 119 m = u' at *
      generalize psB s 100 m = v' at *
      go_enter Tryd.func40, Tryd.ntmps40
      go_wp2_with (first | (go_at_call 68; refine (F.out _ hI.out).mono ?_; rintro e w2 ⟨rfl, hb2⟩; replace hA := ((hA.ext hb2).alloc (.cells #[.int .i64 (m : Nat), .slice a n c] 60)).alloc (.cells #[.int .i64 (u' : Nat), .int .i64 (v' : Nat)] 62); replace hP := ((hP.ext hb2).alloc (.cells #[.int .i64 (m : Nat), .slice a n c] 60)).alloc (.cells #[.int .i64 (u' : Nat), .int .i64 (v' : Nat)] 62); have bw := ((nextB hb hb2).alloc (nextB hb hb2).size (.cells #[.int .i64 (m : Nat), .slice a n c] 60)).alloc ((nextB hb hb2).alloc (nextB hb hb2).size (.cells #[.int .i64 (m : Nat), .slice a n c] 60)).size (.cells #[.int .i64 (u' : Nat), .int .i64 (v' : Nat)] 62); have hG := (Blk.new w2 60 #[.int .i64 (m : Nat), .slice a n c]).alloc (.cells #[.int .i64 (u' : Nat), .int .i64 (v' : Nat)] 62); have hH : Blk ((w2.alloc (.cells #[.int .i64 (m : Nat), .slice a n c] 60)).alloc (.cells #[.int .i64 (u' : Nat), .int .i64 (v' : Nat)] 62)) (w2.heap.size + 1) 62 #[.int .i64 (u' : Nat), .int .i64 (v' : Nat)] := (by have hh := Blk.new (w2.alloc (.cells #[.int .i64 (m : Nat), .slice a n c] 60)) 62 #[.int .i64 (u' : Nat), .int .i64 (v' : Nat)]; simpa using hh)) | (go_at_call 70; refine (SO.out _).mono ?_; rintro e w3 ⟨rfl, hb3⟩; replace hA := hA.ext hb3; replace hP := hP.ext hb3; replace hG := hG.ext hb3; replace hH := hH.ext hb3; replace bw := nextB bw hb3; have hlt := hP.lt; have a0 : (w3).cell? ⟨w.heap.size, 0, none⟩ = some (.int .i64 0) := hA.c 0 rfl; have a1 : (w3).cell? ⟨w.heap.size, 1, none⟩ = some (.slice none 0 0) := hA.c 1 rfl; have q0 := hA.fr 0; have q1 := hA.fr 1; have p0 : (w3).cell? ⟨w.heap.size + 1, 0, none⟩ = some (.int .i64 0) := hP.c 0 rfl; have p1 : (w3).cell? ⟨w.heap.size + 1, 1, none⟩ = some (.int .i64 0) := hP.c 1 rfl; have p2 : (w3).cell? ⟨w.heap.size + 1, 2, none⟩ = some (.int .i64 0) := hP.c 2 rfl; have q2 := hP.fr 0; have q3 := hP.fr 1; have q32 := hP.fr 2; have hA2 := hA.set2 (.int .i64 0) (.slice none 0 0); have hP2 := (hP.other (B' := w.heap.size) (i := 0) (by omega) (.int .i64 0)).other (B' := w.heap.size) (i := 1) (by omega) (.slice none 0 0); have s0 : (((w3).setCell ⟨w.heap.size, 0, none⟩ (.int .i64 0)).setCell ⟨w.heap.size, 1, none⟩ (.slice none 0 0)).cell? ⟨w.heap.size + 1, 0, none⟩ = some (.int .i64 0) := hP2.c 0 rfl; have s1 : (((w3).setCell ⟨w.heap.size, 0, none⟩ (.int .i64 0)).setCell ⟨w.heap.size, 1, none⟩ (.slice none 0 0)).cell? ⟨w.heap.size + 1, 1, none⟩ = some (.int .i64 0) := hP2.c 1 rfl; have s2 : (((w3).setCell ⟨w.heap.size, 0, none⟩ (.int .i64 0)).setCell ⟨w.heap.size, 1, none⟩ (.slice none 0 0)).cell? ⟨w.heap.size + 1, 2, none⟩ = some (.int .i64 0) := hP2.c 2 rfl; have q4 := hP2.fr 0; have q5 := hP2.fr 1; have q6 := hP2.fr 2; have hP3 := hP2.set3 (.int .i64 0) (.int .i64 0) (.int .i64 0); have hA3 := ((hA2.other (B' := w.heap.size + 1) (i := 0) (by omega) (.int .i64 0)).other (B' := w.heap.size + 1) (i := 1) (by omega) (.int .i64 0)).other (B' := w.heap.size + 1) (i := 2) (by omega) (.int .i64 0); have t0 := hA3.c 0 rfl; have t1 := hA3.c 1 rfl; obtain ⟨t2, t3, t4⟩ := hP3.c3; have hbz := Lib.hid ((((((bw).setCell (p := ⟨w.heap.size, 0, none⟩) (Nat.le_refl _) (.int .i64 0)).setCell (p := ⟨w.heap.size, 1, none⟩) (Nat.le_refl _) (.slice none 0 0)).setCell (p := ⟨w.heap.size + 1, 0, none⟩) (Nat.le_succ _) (.int .i64 0)).setCell (p := ⟨w.heap.size + 1, 1, none⟩) (Nat.le_succ _) (.int .i64 0)).setCell (p := ⟨w.heap.size + 1, 2, none⟩) (Nat.le_succ _) (.int .i64 0)); replace hA := Lib.hid hA; replace hP := Lib.hid hP; replace hA2 := Lib.hid hA2; replace hP2 := Lib.hid hP2; replace hP3 := Lib.hid hP3; replace hA3 := Lib.hid hA3))
      refine bodyPost_ret (v := .tuple #[noField, noTurn, .int .i64 5]) (by simp [results, Tryd.results40, go_sem, t0, t1, t2, t3, t4]) rfl ?_
      exact Ret.mk rfl hbz.out
    · have e5 : Hid (e2 = 0) := Lib.hid (by rw [hpe.out, if_pos rfl, if_pos hs])
      have f5 : Hid (f1 = fV m a n c) := Lib.hid (by rw [← hf1.out, if_pos e5.out]; rfl)
      have p5 : Hid (g1 = tV (psB s 119 m) (psB s 100 m) (sideN t)) := Lib.hid (by rw [← hp1.out, if_pos e5.out]; rfl)
      rw [e5.out, f5.out, p5.out]
      rw [hs] at SO
      generalize sideN t = sn at *
      generalize psB s 119 m = u' at *
      generalize psB s 100 m = v' at *
      go_enter Tryd.func40, Tryd.ntmps40
      go_wp2_with (first | (go_at_call 68; refine (F.out _ hI.out).mono ?_; rintro e w2 ⟨rfl, hb2⟩; replace hA := ((hA.ext hb2).alloc (.cells #[.int .i64 (m : Nat), .slice a n c] 60)).alloc (.cells #[.int .i64 (u' : Nat), .int .i64 (v' : Nat)] 62); replace hP := ((hP.ext hb2).alloc (.cells #[.int .i64 (m : Nat), .slice a n c] 60)).alloc (.cells #[.int .i64 (u' : Nat), .int .i64 (v' : Nat)] 62); have bw := ((nextB hb hb2).alloc (nextB hb hb2).size (.cells #[.int .i64 (m : Nat), .slice a n c] 60)).alloc ((nextB hb hb2).alloc (nextB hb hb2).size (.cells #[.int .i64 (m : Nat), .slice a n c] 60)).size (.cells #[.int .i64 (u' : Nat), .int .i64 (v' : Nat)] 62); have hG := (Blk.new w2 60 #[.int .i64 (m : Nat), .slice a n c]).alloc (.cells #[.int .i64 (u' : Nat), .int .i64 (v' : Nat)] 62); have hH : Blk ((w2.alloc (.cells #[.int .i64 (m : Nat), .slice a n c] 60)).alloc (.cells #[.int .i64 (u' : Nat), .int .i64 (v' : Nat)] 62)) (w2.heap.size + 1) 62 #[.int .i64 (u' : Nat), .int .i64 (v' : Nat)] := (by have hh := Blk.new (w2.alloc (.cells #[.int .i64 (m : Nat), .slice a n c] 60)) 62 #[.int .i64 (u' : Nat), .int .i64 (v' : Nat)]; simpa using hh)) | (go_at_call 70; refine (SO.out _).mono ?_; rintro e w3 ⟨rfl, hb3⟩; replace hA := hA.ext hb3; replace hP := hP.ext hb3; replace hG := hG.ext hb3; replace hH := hH.ext hb3; replace bw := nextB bw hb3))
      have hlt := hP.lt
      refine wp_region_S (fun W => Blk W w2.heap.size 60 #[.int .i64 (m : Nat), .slice a n c] ∧ Blk W (w2.heap.size + 1) 62 #[.int .i64 (u' : Nat), .int .i64 (v' : Nat)]) (by kernel_rfl) ?_
      show wpAnyS _ _ _ _ _ (6 + 1) _ _ _
      replace hA : Blk w3.drew w.heap.size 60 #[.int .i64 0, .slice none 0 0] := hA
      replace hP : Blk w3.drew (w.heap.size + 1) 65 #[.int .i64 0, .int .i64 0, .int .i64 0] := hP
      replace hG : Blk w3.drew w2.heap.size 60 #[.int .i64 (m : Nat), .slice a n c] := hG
      replace hH : Blk w3.drew (w2.heap.size + 1) 62 #[.int .i64 (u' : Nat), .int .i64 (v' : Nat)] := hH
      have bw2 := bw.drew
      have hsz := (nextB hb hb2).size
      have hsz2 : w.heap.size + 1 < w2.heap.size := by have := hb2.size; simp at this; omega
      clear bw
      generalize w3.drew = w4 at *
      have bw := bw2
      have hGH := And.intro hG hH
      refine anyS_pure 0 (fV m a n c) rfl (by kernel_rfl) (by kernel_rfl) (by kernel_rfl) (fun _ _ _ h => h) (by rfl) (fun W hW => by have y0 := hW.1.c 0 rfl; have y1 := hW.1.c 1 rfl; go_simp) hGH ?_
      refine anyS_pure 1 (pV u' v') rfl (by kernel_rfl) (by kernel_rfl) (by kernel_rfl) (fun _ _ _ h => h) (by rfl) (fun W hW => by have y0 := hW.2.c 0 rfl; have y1 := hW.2.c 1 rfl; go_simp) hGH ?_
      refine anyS_pure 2 (.int .i64 (sn : Nat)) rfl (by kernel_rfl) (by kernel_rfl) (by kernel_rfl) (fun _ _ _ h => h) (by rfl) (fun W _ => by go_simp) hGH ?_
      refine anyS_pure 3 (tV u' v' sn) rfl (by kernel_rfl) (by kernel_rfl) (by kernel_rfl) (fun _ _ _ h => h) (by rfl) (fun W _ => by go_simp) hGH ?_
      try simp only [Act.put, List.setIfInBounds_toArray]
      have a0 : (w4).cell? ⟨w.heap.size, 0, none⟩ = some (.int .i64 0) := hA.c 0 rfl
      have a1 : (w4).cell? ⟨w.heap.size, 1, none⟩ = some (.slice none 0 0) := hA.c 1 rfl
      have q0 := hA.fr 0
      have q1 := hA.fr 1
      have p0 : (w4).cell? ⟨w.heap.size + 1, 0, none⟩ = some (.int .i64 0) := hP.c 0 rfl
      have p1 : (w4).cell? ⟨w.heap.size + 1, 1, none⟩ = some (.int .i64 0) := hP.c 1 rfl
      have p2 : (w4).cell? ⟨w.heap.size + 1, 2, none⟩ = some (.int .i64 0) := hP.c 2 rfl
      have q2 := hP.fr 0
      have q3 := hP.fr 1
      have q32 := hP.fr 2
      have hA2 := hA.set2 (.int .i64 (m : Nat)) (.slice a n c)
      have hP2 := (hP.other (B' := w.heap.size) (i := 0) (by omega) (.int .i64 (m : Nat))).other (B' := w.heap.size) (i := 1) (by omega) (.slice a n c)
      have s0 : (((w4).setCell ⟨w.heap.size, 0, none⟩ (.int .i64 (m : Nat))).setCell ⟨w.heap.size, 1, none⟩ (.slice a n c)).cell? ⟨w.heap.size + 1, 0, none⟩ = some (.int .i64 0) := hP2.c 0 rfl
      have s1 : (((w4).setCell ⟨w.heap.size, 0, none⟩ (.int .i64 (m : Nat))).setCell ⟨w.heap.size, 1, none⟩ (.slice a n c)).cell? ⟨w.heap.size + 1, 1, none⟩ = some (.int .i64 0) := hP2.c 1 rfl
      have s2 : (((w4).setCell ⟨w.heap.size, 0, none⟩ (.int .i64 (m : Nat))).setCell ⟨w.heap.size, 1, none⟩ (.slice a n c)).cell? ⟨w.heap.size + 1, 2, none⟩ = some (.int .i64 0) := hP2.c 2 rfl
      have q4 := hP2.fr 0
      have q5 := hP2.fr 1
      have q6 := hP2.fr 2
      have hP3 := hP2.set3 (.int .i64 (u' : Nat)) (.int .i64 (v' : Nat)) (.int .i64 (sn : Nat))
      have hA3 := ((hA2.other (B' := w.heap.size + 1) (i := 0) (by omega) (.int .i64 (u' : Nat))).other (B' := w.heap.size + 1) (i := 1) (by omega) (.int .i64 (v' : Nat))).other (B' := w.heap.size + 1) (i := 2) (by omega) (.int .i64 (sn : Nat))
      have t0 := hA3.c 0 rfl
      have t1 := hA3.c 1 rfl
      obtain ⟨t2, t3, t4⟩ := hP3.c3
      have hbz := Lib.hid ((((((bw).setCell (p := ⟨w.heap.size, 0, none⟩) (Nat.le_refl _) (.int .i64 (m : Nat))).setCell (p := ⟨w.heap.size, 1, none⟩) (Nat.le_refl _) (.slice a n c)).setCell (p := ⟨w.heap.size + 1, 0, none⟩) (Nat.le_succ _) (.int .i64 (u' : Nat))).setCell (p := ⟨w.heap.size + 1, 1, none⟩) (Nat.le_succ _) (.int .i64 (v' : Nat))).setCell (p := ⟨w.heap.size + 1, 2, none⟩) (Nat.le_succ _) (.int .i64 (sn : Nat)))
      replace hA := Lib.hid hA
      replace hP := Lib.hid hP
      replace hA2 := Lib.hid hA2
      replace hP2 := Lib.hid hP2
      replace hP3 := Lib.hid hP3
      replace hA3 := Lib.hid hA3
      replace hG := Lib.hid hG
      replace hH := Lib.hid hH
      refine anyS_one 4 (by kernel_rfl) rfl ?_
      go_wp2_with fail
      show _ ∧ _
      refine ⟨⟨(hG.out.other (B' := w.heap.size) (i := 0) (by omega) _).other (B' := w.heap.size) (i := 1) (by omega) _, (hH.out.other (B' := w.heap.size) (i := 0) (by omega) _).other (B' := w.heap.size) (i := 1) (by omega) _⟩, ?_⟩
      refine anyS_one 5 (by kernel_rfl) rfl ?_
      go_wp2_with fail
      show _ ∧ _
      refine ⟨⟨((((hG.out.other (B' := w.heap.size) (i := 0) (by omega) _).other (B' := w.heap.size) (i := 1) (by omega) _).other (B' := w.heap.size + 1) (i := 0) (by omega) _).other (B' := w.heap.size + 1) (i := 1) (by omega) _).other (B' := w.heap.size + 1) (i := 2) (by omega) _, ((((hH.out.other (B' := w.heap.size) (i := 0) (by omega) _).other (B' := w.heap.size) (i := 1) (by omega) _).other (B' := w.heap.size + 1) (i := 0) (by omega) _).other (B' := w.heap.size + 1) (i := 1) (by omega) _).other (B' := w.heap.size + 1) (i := 2) (by omega) _⟩, ?_⟩
      refine anyS_one 6 (by kernel_rfl) rfl ?_
      go_wp2_with fail
      show _ ∧ _
      refine ⟨⟨((((hG.out.other (B' := w.heap.size) (i := 0) (by omega) _).other (B' := w.heap.size) (i := 1) (by omega) _).other (B' := w.heap.size + 1) (i := 0) (by omega) _).other (B' := w.heap.size + 1) (i := 1) (by omega) _).other (B' := w.heap.size + 1) (i := 2) (by omega) _, ((((hH.out.other (B' := w.heap.size) (i := 0) (by omega) _).other (B' := w.heap.size) (i := 1) (by omega) _).other (B' := w.heap.size + 1) (i := 0) (by omega) _).other (B' := w.heap.size + 1) (i := 1) (by omega) _).other (B' := w.heap.size + 1) (i := 2) (by omega) _⟩, ?_⟩
      refine anyS_end (by kernel_rfl) ?_
      go_wp2
      refine bodyPost_ret (v := .tuple #[fV m a n c, tV u' v' sn, .int .i64 0]) (by simp [results, Tryd.results40, go_sem, t0, t1, t2, t3, t4]) rfl ?_
      exact Ret.mk rfl hbz.out
  · have e5 : Hid (e2 = e1) := Lib.hid (by rw [hpe.out, if_neg h1])
    have f5 : Hid (f1 = noField) := Lib.hid (by rw [← hf1.out, if_neg (by rw [e5.out]; exact h1)])
    have p5 : Hid (g1 = noTurn) := Lib.hid (by rw [← hp1.out, if_neg (by rw [e5.out]; exact h1)])
    rw [e5.out, f5.out, p5.out]
    rw [if_neg h1, if_neg h1] at F
    have d1 : ((e1 : Int) != 0) = true := by rw [bne_iff_ne]; omega
    go_enter Tryd.func40, Tryd.ntmps40
    go_wp2_with (go_at_call 68; refine (F.out _ hI.out).mono ?_; rintro e w2 ⟨rfl, hb2⟩; replace hA := ((hA.ext hb2).alloc (.cells #[.int .i64 0, .slice none 0 0] 60)).alloc (.cells #[.int .i64 0, .int .i64 0] 62); replace hP := ((hP.ext hb2).alloc (.cells #[.int .i64 0, .slice none 0 0] 60)).alloc (.cells #[.int .i64 0, .int .i64 0] 62); have bw := ((nextB hb hb2).alloc (nextB hb hb2).size (.cells #[.int .i64 0, .slice none 0 0] 60)).alloc ((nextB hb hb2).alloc (nextB hb hb2).size (.cells #[.int .i64 0, .slice none 0 0] 60)).size (.cells #[.int .i64 0, .int .i64 0] 62); have hlt := hP.lt; have a0 : ((w2.alloc (.cells #[.int .i64 0, .slice none 0 0] 60)).alloc (.cells #[.int .i64 0, .int .i64 0] 62)).cell? ⟨w.heap.size, 0, none⟩ = some (.int .i64 0) := hA.c 0 rfl; have a1 : ((w2.alloc (.cells #[.int .i64 0, .slice none 0 0] 60)).alloc (.cells #[.int .i64 0, .int .i64 0] 62)).cell? ⟨w.heap.size, 1, none⟩ = some (.slice none 0 0) := hA.c 1 rfl; have q0 := hA.fr 0; have q1 := hA.fr 1; have p0 : ((w2.alloc (.cells #[.int .i64 0, .slice none 0 0] 60)).alloc (.cells #[.int .i64 0, .int .i64 0] 62)).cell? ⟨w.heap.size + 1, 0, none⟩ = some (.int .i64 0) := hP.c 0 rfl; have p1 : ((w2.alloc (.cells #[.int .i64 0, .slice none 0 0] 60)).alloc (.cells #[.int .i64 0, .int .i64 0] 62)).cell? ⟨w.heap.size + 1, 1, none⟩ = some (.int .i64 0) := hP.c 1 rfl; have p2 : ((w2.alloc (.cells #[.int .i64 0, .slice none 0 0] 60)).alloc (.cells #[.int .i64 0, .int .i64 0] 62)).cell? ⟨w.heap.size + 1, 2, none⟩ = some (.int .i64 0) := hP.c 2 rfl; have q2 := hP.fr 0; have q3 := hP.fr 1; have q32 := hP.fr 2; have hA2 := hA.set2 (.int .i64 0) (.slice none 0 0); have hP2 := (hP.other (B' := w.heap.size) (i := 0) (by omega) (.int .i64 0)).other (B' := w.heap.size) (i := 1) (by omega) (.slice none 0 0); have s0 : ((((w2.alloc (.cells #[.int .i64 0, .slice none 0 0] 60)).alloc (.cells #[.int .i64 0, .int .i64 0] 62)).setCell ⟨w.heap.size, 0, none⟩ (.int .i64 0)).setCell ⟨w.heap.size, 1, none⟩ (.slice none 0 0)).cell? ⟨w.heap.size + 1, 0, none⟩ = some (.int .i64 0) := hP2.c 0 rfl; have s1 : ((((w2.alloc (.cells #[.int .i64 0, .slice none 0 0] 60)).alloc (.cells #[.int .i64 0, .int .i64 0] 62)).setCell ⟨w.heap.size, 0, none⟩ (.int .i64 0)).setCell ⟨w.heap.size, 1, none⟩ (.slice none 0 0)).cell? ⟨w.heap.size + 1, 1, none⟩ = some (.int .i64 0) := hP2.c 1 rfl; have s2 : ((((w2.alloc (.cells #[.int .i64 0, .slice none 0 0] 60)).alloc (.cells #[.int .i64 0, .int .i64 0] 62)).setCell ⟨w.heap.size, 0, none⟩ (.int .i64 0)).setCell ⟨w.heap.size, 1, none⟩ (.slice none 0 0)).cell? ⟨w.heap.size + 1, 2, none⟩ = some (.int .i64 0) := hP2.c 2 rfl; have q4 := hP2.fr 0; have q5 := hP2.fr 1; have q6 := hP2.fr 2; have hP3 := hP2.set3 (.int .i64 0) (.int .i64 0) (.int .i64 0); have hA3 := ((hA2.other (B' := w.heap.size + 1) (i := 0) (by omega) (.int .i64 0)).other (B' := w.heap.size + 1) (i := 1) (by omega) (.int .i64 0)).other (B' := w.heap.size + 1) (i := 2) (by omega) (.int .i64 0); have t0 := hA3.c 0 rfl; have t1 := hA3.c 1 rfl; obtain ⟨t2, t3, t4⟩ := hP3.c3; have hbz := Lib.hid ((((((bw).setCell (p := ⟨w.heap.size, 0, none⟩) (Nat.le_refl _) (.int .i64 0)).setCell (p := ⟨w.heap.size, 1, none⟩) (Nat.le_refl _) (.slice none 0 0)).setCell (p := ⟨w.heap.size + 1, 0, none⟩) (Nat.le_succ _) (.int .i64 0)).setCell (p := ⟨w.heap.size + 1, 1, none⟩) (Nat.le_succ _) (.int .i64 0)).setCell (p := ⟨w.heap.size + 1, 2, none⟩) (Nat.le_succ _) (.int .i64 0)); replace hA := Lib.hid hA; replace hP := Lib.hid hP; replace hA2 := Lib.hid hA2; replace hP2 := Lib.hid hP2; replace hP3 := Lib.hid hP3; replace hA3 := Lib.hid hA3)
    refine bodyPost_ret (v := .tuple #[noField, noTurn, .int .i64 (e1 : Nat)]) (by simp [results, Tryd.results40, go_sem, t0, t1, t2, t3, t4]) rfl ?_
    exact Ret.mk rfl hbz.out
end Go.Proofs.YtbdhceolchhnjaaDoor
