/- Layer 3, by the program: which numbers are weights, is a set among others, the sums of all sets. Layer 3, by the program: the sums of all sets. Layer 3, by the program: a game is made by a function that tells of each set whether it wins. Layer 3, by the program: the game of a body. Layer 3, by the program: what a game tells. Layer 3, by the program: which lists are rules; the game of a rule. Layer 3, by the program: Wins, Least, Turns, Rules. Layer 3: sets without others; bodies and rules make games. Layer 3, by the program: Other, Kinds. Layer 3, by the specification: which lists are rules; does a set win by a rule. Layer 3, by the specification: rules, and who wins by them. Layer 3: a game is known by its least winning sets; the other game. -/
import Derived.Test.YtbdhceolchhnjaaDoorVa
import Derived.OwnWalk
import Derived.Test.YtbdhceolchhnjaaDoorAc
namespace Go.Proofs.YtbdhceolchhnjaaDoor.Vo
section
open Go Go.RowKit

theorem lt_succ_all {P : Nat → Prop} {k : Nat} (h : ∀ i, i < k → P i) (hk : P k) : ∀ i, i < k + 1 → P i := fun i hi => by
  by_cases e : i = k
  · subst e; exact hk
  · exact h i (by omega)

/-- A weight is from 0 to 1000. -/
def WtP (x : Int) : Prop := 0 ≤ x ∧ x ≤ 1000
instance (x : Int) : Decidable (WtP x) := by unfold WtP; infer_instance
/-- The first number of which p says yes, or -1. -/
def FoundP (xs : List Int) (p : Int → Bool) (r : Int) : Prop := 0 ≤ r ↔ xs.any p = true
def FoundR (xs : List Int) (p : Int → Bool) (w : World) (e : Ending) (w' : World) : Prop := ∃ r, e = .returned (.int .i64 r) ∧ FoundP xs p r ∧ w = w'

set_option maxRecDepth 100000 in
set_option maxHeartbeats 800000 in
theorem indexF1_any (a : Option Addr) (n c : Nat) (xs : List Int) (p : Int → Bool) (q : Addr) (w : World) (h : Ints w a xs) (hn : xs.length = n) (hm : n ≤ 1000)
    (hp : ∀ i, i < n → Calls Tryd.prog 105 #[.int .i64 (nth xs i), .pointer (some q)] w (Only (.bool (p (nth xs i))) w)) :
    Calls Tryd.prog 75 #[.slice a n c, .func (.func 105) #[] #[.pointer (some q)]] w (FoundR xs p w) := by
  replace hp := Lib.hid hp
  by_cases h0 : n = 0
  · subst h0
    have hn := Lib.hid hn
    go_enter Tryd.func75, Tryd.ntmps75
    go_wp2
    go_loop [5, 8] (fun v i => i = .int .i64 0) (fun _ i => 0)
    case atStart => rfl
    case round =>
      subst hrel
      go_wp2
      go_ret
      refine ⟨_, rfl, ?_, rfl⟩
      have := List.eq_nil_of_length_eq_zero hn.out
      subst this
      unfold FoundP
      simp
  · obtain ⟨b, off, rfl, hc⟩ := ints_at h (by omega)
    rw [hn] at hc
    replace hc := Lib.hid hc
    replace hn := Lib.hid hn
    clear h
    go_enter Tryd.func75, Tryd.ntmps75
    go_wp2
    go_loop [5, 8] (fun v i => ∃ k : Nat, k ≤ n ∧ i = .int .i64 k ∧ (∀ j, j < k → p (nth xs j) = false)) (fun _ i => n - (intOf i).toNat)
    case atStart => exact ⟨0, by omega, rfl, fun j hj => absurd hj (by omega)⟩
    case round =>
      obtain ⟨k, hk, rfl, hno⟩ := hrel
      replace hno := Lib.hid hno
      by_cases hlt : k < n
      · have x0 := hc.out k hlt
        have hi1 : (k : Int) < (n : Int) := by omega
        have hmem := Lib.hid (nth_mem (show k < xs.length by rw [hn.out]; exact hlt))
        have C := hp.out k hlt
        obtain ⟨y, hy⟩ : ∃ y, Hid (nth xs k = y) := ⟨_, Lib.hid rfl⟩
        rw [hy.out] at C x0 hmem
        cases g : p y
        · rw [g] at C
          go_wp2_with (go_at_call 105; refine C.mono ?_; rintro e w1 ⟨rfl, rfl⟩)
          go_round
          case rel => exact ⟨k + 1, by omega, by go_num, fun j hj => (by
            by_cases hjk : j = k
            · subst hjk; rw [hy.out]; exact g
            · exact hno.out j (by omega))⟩
          case measure => simp [intOf]; omega
        · rw [g] at C
          go_wp2_with (go_at_call 105; refine C.mono ?_; rintro e w1 ⟨rfl, rfl⟩)
          go_ret
          exact ⟨_, rfl, ⟨fun _ => List.any_eq_true.2 ⟨_, hmem.out, g⟩, fun _ => by omega⟩, rfl⟩
      · go_wp2
        go_ret
        refine ⟨_, rfl, ⟨fun h => absurd h (by omega), fun hq => ?_⟩, rfl⟩
        obtain ⟨x, hx, hpx⟩ := List.any_eq_true.1 hq
        obtain ⟨i, hi, e⟩ := mem_nth hx
        have := hno.out i (by rw [hn.out] at hi; omega)
        rw [e, hpx] at this
        cases this
theorem containsF1_any (a : Option Addr) (n c : Nat) (xs : List Int) (p : Int → Bool) (q : Addr) (w : World) (h : Ints w a xs) (hn : xs.length = n) (hm : n ≤ 1000)
    (hp : ∀ i, i < n → Calls Tryd.prog 105 #[.int .i64 (nth xs i), .pointer (some q)] w (Only (.bool (p (nth xs i))) w)) :
    Calls Tryd.prog 95 #[.slice a n c, .func (.func 105) #[] #[.pointer (some q)]] w (Only (.bool (xs.any p)) w) := by
  have K := Lib.hid (indexF1_any a n c xs p q w h hn hm hp)
  clear h hn hp
  go_enter Tryd.func95, Tryd.ntmps95
  go_wp2_with (go_at_call 75; refine K.out.mono ?_; rintro e w1 ⟨r, rfl, hr, rfl⟩; replace hr := Lib.hid hr)
  go_ret
  refine Only.mk ?_
  cases hq : xs.any p
  · have : ¬ 0 ≤ r := fun h => by have := hr.out.1 h; rw [hq] at this; cases this
    simp; omega
  · have := hr.out.2 hq; simp [this]

theorem beq_nat (a b : Nat) : ((a : Int) == (b : Int)) = (a == b) := by
  rw [Bool.eq_iff_iff, beq_iff_eq, beq_iff_eq]; omega
theorem containsOne1_any (q : Addr) (s o : Nat) (w : World) (hs : s < 65536) (ho : o < 65536) (hc : w.cell? q = some (.int .i64 (s : Nat))) :
    Calls Tryd.prog 105 #[.int .i64 (o : Nat), .pointer (some q)] w (Only (.bool (inB o s)) w) := by
  have an := i64_and_nat s o (by omega) (by omega)
  go_enter Tryd.func105, Tryd.ntmps105
  go_wp2
  go_ret
  exact Only.mk (by show Value.bool (((s &&& o : Nat) : Int) == (o : Int)) = _; rw [beq_nat]; rfl)
/-- Sets as numbers of the program. -/
def Sets (R : List Int) : Prop := ∀ x ∈ R, 0 ≤ x ∧ x < 65536
/-- Does a set contain one of the others? -/
def hasOne (R : List Int) (s : Nat) : Bool := R.any fun o => inB o.toNat s
theorem containsOne_any (a : Option Addr) (n c : Nat) (R : List Int) (s : Nat) (w : World) (h : Ints w a R) (hn : R.length = n) (hm : n ≤ 1000) (hs : s < 65536) (hR : Sets R) :
    Calls Tryd.prog 89 #[.int .i64 (s : Nat), .slice a n c] w (Ret (.bool (hasOne R s)) w) := by
  have K := Lib.hid (fun (W : World) (q : Addr) (hW : Ints W a R) (hc : W.cell? q = some (.int .i64 (s : Nat))) => containsF1_any a n c R (fun o => inB o.toNat s) q W hW hn hm (fun i hi => by
    have hx := hR _ (nth_mem (show i < R.length by omega))
    have := containsOne1_any q s (nth R i).toNat W hs (by omega) hc
    rwa [Int.toNat_of_nonneg hx.1] at this))
  have h := Lib.hid h
  clear hn
  go_enter Tryd.func89, Tryd.ntmps89
  go_wp2_with (go_at_call 95; refine (K.out _ _ (h.out.next (b1 _ _)) (by go_simp)).mono ?_; rintro e w1 ⟨rfl, rfl⟩)
  go_ret
  exact Ret.mk rfl (b1 _ _)
end
section
open Go Go.RowKit

def zeros (m : Nat) : Array Value := (List.replicate m (Value.int .i64 0)).toArray
theorem make_one (m : Nat) (h1 : 1 ≤ m) (hm : m ≤ 1000000) (W : World) : (Instr.makeSlice 22 (.int .i64 1) (.int .i64 (m : Int))).run Tryd.prog W = .ok (.slice (some ⟨W.heap.size, 0, none⟩) 1 m) (W.alloc (.cells (zeros m) 3)) := by
  obtain ⟨i0, hi, hz0, hz1, hz2⟩ := info_parts infoInt
  rw [run_make W 22 3 i0 (.int .i64 0) Tryd.underlying22 hi hz0 .i64 .i64 1 m (by omega) (by omega) (by rw [hz2]; omega) (by omega)]
  have e : madeCells (Value.int .i64 0).cells (m * 1) = zeros m := by
    apply Array.ext'
    simp [madeCells, zeros, Value.cells, Nat.mod_one, List.map_const']
  simp only [Int.toNat_natCast, hz1, e]
  rfl
theorem own_one (w : World) (m : Nat) (h1 : 1 ≤ m) (hm : m ≤ 1000000) : (w.alloc (.cells (zeros m) 3)).ownsRow w.heap.size 3 1 (.slice (some ⟨w.heap.size, 0, none⟩) 1 m) 1 (lI [0]) := by
  refine ⟨by simp [lI], .inr ⟨w.heap.size, m, zeros m, rfl, Nat.le_refl _, heap_alloc_new w _, h1, by unfold maxLen; omega, by simp [zeros], ?_⟩⟩
  obtain ⟨k, rfl⟩ : ∃ k, m = k + 1 := ⟨m - 1, by omega⟩
  simp [zeros, lI, List.replicate_succ]
theorem wrap_shl {k : Nat} (h : k < 40) : wrap64 ((2 : Int) ^ k) = ((pw k : Nat) : Int) := by
  have := pw_le h
  rw [pw_int]; exact IntWalk.wrap64_in _ ⟨by omega, by omega⟩
/-- The slice of all sums. -/
def SumsR (ws : List Int) (w : World) (e : Ending) (w' : World) : Prop :=
  ∃ g, e = .returned (.slice (some ⟨g, 0, none⟩) (pw ws.length) (pw ws.length)) ∧ w.heap.size ≤ g ∧ (∀ s, s < pw ws.length → w'.cell? ⟨g, s, none⟩ = some (.int .i64 (wsum ws s ws.length))) ∧ Below w.heap.size w w'
def Wts (ws : List Int) : Prop := ∀ i, i < ws.length → 0 ≤ nth ws i ∧ nth ws i ≤ 1000
theorem wsum_bd {ws : List Int} (h : Wts ws) (s : Nat) : ∀ k, k ≤ ws.length → 0 ≤ wsum ws s k ∧ wsum ws s k ≤ 1000 * k := by
  intro k
  induction k with
  | zero => intro _; simp [wsum]
  | succ k ih =>
    intro hk
    have h1 := ih (by omega)
    have h2 := h k (by omega)
    rw [wsum]
    have h3 := bt_lt s k
    have h4 : bt s k = 0 ∨ bt s k = 1 := by omega
    rcases h4 with h4 | h4 <;> rw [h4] <;> omega
def SumIn (g N P : Nat) (S : List Int) (y : Int) (w : World) (v i : Value) (wr : World) : Prop :=
  ∃ j m : Nat, j ≤ P ∧ m ≤ P + j ∧ P + j ≤ m ∧ i = .int .i64 j ∧ v = .slice (some ⟨g, 0, none⟩) m N ∧ wr.ownsRow w.heap.size 3 1 (.slice (some ⟨g, 0, none⟩) m N) m (lI (S ++ (S.take j).map (· + y))) ∧ Below w.heap.size w wr
end
section
open Go Go.RowKit

/-- Cells of bools. -/
def cF (f : Nat → Bool) (m : Nat) : Array Value := ((List.range m).map fun i => Value.bool (f i)).toArray
theorem cF_size (f : Nat → Bool) (m : Nat) : (cF f m).size = m := by simp [cF]
theorem cF_get {f : Nat → Bool} {m i : Nat} (h : i < m) : (cF f m)[i]? = some (.bool (f i)) := by simp [cF, h]
theorem cF_set (f : Nat → Bool) (m k : Nat) (hk : k < m) : (cF (fun i => decide (i < k) && f i) m).set k (.bool (f k)) (by rw [cF_size]; exact hk) = cF (fun i => decide (i < k + 1) && f i) m := by
  apply Array.ext
  · simp [cF]
  · intro i h1 h2
    simp only [Array.size_set, cF_size] at h1
    rw [Array.getElem_set]
    by_cases e : k = i
    · subst e; simp [cF]
    · have : decide (i < k + 1) = decide (i < k) := by rw [decide_eq_decide]; omega
      simp [e, cF, this]
theorem _root_.Go.Proofs.YtbdhceolchhnjaaDoor.Blk.setF {W : World} {B : Nat} {t : TypeId} {f : Nat → Bool} {m k : Nat} (h : Blk W B t (cF (fun i => decide (i < k) && f i) m)) (hk : k < m) : Blk (W.setCell ⟨B, k, none⟩ (.bool (f k))) B t (cF (fun i => decide (i < k + 1) && f i) m) := by
  unfold Blk at *
  have hlt := (Array.getElem?_eq_some_iff.1 h).1
  have h' : W.heap[B] = .cells (cF (fun i => decide (i < k) && f i) m) t (0, 0) := by simpa [Array.getElem?_eq_getElem hlt] using h
  show (W.heap.modify B _)[B]? = _
  rw [Array.getElem?_eq_getElem (by simpa using hlt), Array.getElem_modify_self, h']
  simp only [← cF_set f m k hk]
  simp [Array.setIfInBounds, cF_size, hk]
theorem make_bools (m : Nat) (hm : m ≤ 1000000) (W : World) : (Instr.makeSlice 94 (.int .i64 (m : Int)) (.int .i64 (m : Int))).run Tryd.prog W = .ok (.slice (some ⟨W.heap.size, 0, none⟩) m m) (W.alloc (.cells (cF (fun _ => false) m) 4)) := by
  obtain ⟨i0, hi, hz0, hz1, hz2⟩ := info_parts infoBool
  rw [run_make W 94 4 i0 (.bool false) Tryd.underlying94 hi hz0 .i64 .i64 m m (by omega) (by omega) (by rw [hz2]; omega) (by omega)]
  have e : madeCells (Value.bool false).cells (m * 1) = cF (fun _ => false) m := by
    apply Array.ext'
    simp [madeCells, cF, Value.cells, Nat.mod_one, List.map_const']
  simp only [Int.toNat_natCast, hz1, e]
/-- Block B tells of each set whether it wins. -/
def Bools (w : World) (B N : Nat) (f : Nat → Bool) : Prop := ∀ i, i < N → w.cell? ⟨B, i, none⟩ = some (.bool (f i))
theorem Bools.next {w w' : World} {B N : Nat} {f : Nat → Bool} (h : Bools w B N f) (hb : Below w.heap.size w w') : Bools w' B N f := fun i hi => cellB hb (h i hi)
theorem Bools.other {w : World} {B N B' i : Nat} {f : Nat → Bool} (h : Bools w B N f) (hne : B ≠ B') (v : Value) : Bools (w.setCell ⟨B', i, none⟩ v) B N f := fun k hk =>
  (World.cell?_of_block (a := ⟨B, k, none⟩) (Below.heap_setCell w ⟨B', i, none⟩ v B hne)).trans (h k hk)
abbrev gV (n B N : Nat) : Value := .agg #[.int .i64 (n : Nat), .slice (some ⟨B, 0, none⟩) N N]
/-- A call returned a game. -/
def GameR (n : Nat) (f : Nat → Bool) (w : World) (e : Ending) (w' : World) : Prop := ∃ B, e = .returned (gV n B (pw n)) ∧ w.heap.size ≤ B ∧ Bools w' B (pw n) f ∧ Below w.heap.size w w'
theorem Bools.of {w : World} {B N : Nat} {t : TypeId} {f g : Nat → Bool} (h : Blk w B t (cF f N)) (hfg : ∀ i, i < N → f i = g i) : Bools w B N g := fun i hi => by
  rw [← hfg i hi]; exact h.c i (cF_get hi)
def NewIn (n : Nat) (f : Nat → Bool) (N : Nat) (w : World) (i : Value) (wr : World) : Prop :=
  ∃ k : Nat, k ≤ N ∧ i = .int .i64 k ∧ Blk wr (w.heap.size + 1) 4 (cF (fun i => decide (i < k) && f i) N) ∧ Blk wr w.heap.size 96 #[.int .i64 0, .slice none 0 0] ∧
    Blk wr (w.heap.size + 1 + 1) 96 #[.int .i64 (n : Nat), .slice (some ⟨w.heap.size + 1, 0, none⟩) N N] ∧ Below w.heap.size w wr
set_option maxRecDepth 100000 in
set_option maxHeartbeats 4000000 in
theorem newGame_any (n : Nat) (fn : FuncId) (caps : Array Value) (f : Nat → Bool) (w : World) (h1 : 1 ≤ n) (h8 : n ≤ 8)
    (HE : ∀ args W, (callFunc fn args).run Tryd.prog W = .ok (.enter fn args) W) (H : ∀ W, Below w.heap.size w W → ∀ s : Nat, s < pw n → Calls Tryd.prog fn (#[.int .i64 (s : Nat)] ++ caps) W (Ret (.bool (f s)) W)) :
    Calls Tryd.prog 64 #[.int .i64 (n : Nat), .func (.func fn) #[] caps] w (GameR n f w) := by
  have sh := wrap_shl (k := n) (by omega)
  have hp8 : pw n ≤ 256 := by have := pw_mono h8; simpa [pw] using this
  have hp1 := pw_pos n
  have hmk := make_bools (pw n) (by omega)
  obtain ⟨N, hN⟩ : ∃ N, Hid (pw n = N) := ⟨_, Lib.hid rfl⟩
  rw [hN.out] at sh hp8 hp1 hmk H
  replace H := Lib.hid H
  unfold GameR
  rw [hN.out]
  go_enter Tryd.func64, Tryd.ntmps64
  go_wp2
  go_loopw [6, 15] (fun _ i wr => NewIn n f N w i wr) (fun _ i _ => N - (intOf i).toNat)
  case atStart =>
    refine ⟨0, by omega, rfl, ?_, ?_, ?_, b3 _ _ _ _⟩
    · have := Blk.new (w.alloc (.cells #[.int .i64 0, .slice none 0 0] 96)) 4 (cF (fun _ => false) N)
      exact Blk.alloc (by simpa using this) _
    · exact ((Blk.new w _ _).alloc _).alloc _
    · have := Blk.new ((w.alloc (.cells #[.int .i64 0, .slice none 0 0] 96)).alloc (.cells (cF (fun _ => false) N) 4)) 96 #[.int .i64 (n : Nat), .slice (some ⟨w.heap.size + 1, 0, none⟩) N N]
      simpa using this
  case round =>
    obtain ⟨k, hk, rfl, hA, hR, hG, B0⟩ := hrel
    have g1 := hG.c 1 rfl
    by_cases hlt : k < N
    · have C := H.out
      have hki : (k : Int) < (N : Int) := by omega
      have hA' := Lib.hid hA
      have hR' := Lib.hid hR
      have hG' := Lib.hid hG
      clear hA hR hG
      go_wp2
      refine wp_region_ext_tail 7 (by kernel_rfl) (by kernel_rfl) ?_
      simp only [List.take_succ_cons, List.take_zero, List.drop_succ_cons, List.drop_zero]
      replace g1 := cellX g1
      have K := Lib.hid (fun (x : Ext wr) => callE (C x.world (nextB B0 x.ok) k hlt))
      clear C
      repeat (go_big_quiet_step (exact K.out _))
      refine wpQuiet_nil ?_
      rintro ⟨w1, hw1⟩
      dsimp only
      have hA := hA'.out.ext hw1
      have hR := hR'.out.ext hw1
      have hG := hG'.out.ext hw1
      replace B0 := nextB B0 hw1
      have a1 := hA.c k (cF_get hlt)
      have a2 := hA.fr k
      clear g1 K
      have hS := hA.setF hlt
      have hs := B0.size
      replace hA := Lib.hid hA
      replace hS := Lib.hid hS
      go_wp2
      go_roundw
      case rel => exact ⟨k + 1, by omega, by go_num, hS.out, hR.other (by omega) _, hG.other (by omega) _, B0.setCell (by simp) _⟩
      case measure => simp [intOf]; omega
    · obtain rfl : k = N := by omega
      have g0 := hG.c 0 rfl
      have r0 := hR.c 0 rfl
      have r1 := hR.c 1 rfl
      have q0 := hR.fr 0
      have q1 := hR.fr 1
      have hS := hR.set2 (.int .i64 (n : Nat)) (.slice (some ⟨w.heap.size + 1, 0, none⟩) k k)
      have s0 := hS.c 0 rfl
      have s1 := hS.c 1 rfl
      have hA2 := Lib.hid ((hA.other (B' := w.heap.size) (i := 0) (by omega) (.int .i64 (n : Nat))).other (B' := w.heap.size) (i := 1) (by omega) (.slice (some ⟨w.heap.size + 1, 0, none⟩) k k))
      replace hR := Lib.hid hR
      replace hS := Lib.hid hS
      replace hG := Lib.hid hG
      go_wp2
      refine bodyPost_ret (v := gV n (w.heap.size + 1) k) (by simp [results, Tryd.results64, go_sem, s0, s1]) rfl ?_
      refine ⟨_, rfl, Nat.le_succ _, Bools.of (f := fun i => decide (i < k) && f i) hA2.out (fun i hi => by simp [hi]), (B0.setCell (Nat.le_refl _) _).setCell (Nat.le_refl _) _⟩
end
section
open Go Go.RowKit

/-- All drovers. -/
def total (ws : List Int) : Int := wsum ws (pw ws.length - 1) ws.length
/-- A body. -/
def BodyP (q : Int) (ws : List Int) : Prop := 1 ≤ ws.length ∧ ws.length ≤ 8 ∧ Wts ws ∧ 1 ≤ q ∧ q ≤ total ws
/-- Does a set win? -/
def winB (q : Int) (ws : List Int) (s : Nat) : Bool := decide (q ≤ wsum ws s ws.length)
theorem Wts_any {ws : List Int} : (ws.any fun x => !decide (WtP x)) = false ↔ Wts ws := by
  rw [List.any_eq_false]
  constructor
  · intro h i hi
    have := h _ (nth_mem hi)
    have : WtP (nth ws i) := by simpa using this
    exact this
  · intro h x hx
    obtain ⟨i, hi, rfl⟩ := mem_nth hx
    have : WtP (nth ws i) := h i hi
    simpa using this
abbrev noGame : Value := .tuple #[.agg #[.int .i64 0, .slice none 0 0], .bool false]
/-- The game of a body. -/
def BodyR (q : Int) (ws : List Int) (w : World) (e : Ending) (w' : World) : Prop := ∃ B, e = .returned (.tuple #[gV ws.length B (pw ws.length), .bool true]) ∧ w.heap.size ≤ B ∧ Bools w' B (pw ws.length) (winB q ws) ∧ Below w.heap.size w w'
theorem own_no (ws : List Int) (hw : Wts ws) : (ws.any fun x => !decide (WtP x)) = false := Wts_any.2 hw
end
section
open Go Go.RowKit

theorem all_any (n B N : Nat) (w : World) (h8 : n ≤ 8) : Calls Tryd.prog 66 #[gV n B N] w (Ret (.int .i64 ((pw n - 1 : Nat) : Int)) w) := by
  have sh := wrap_shl (k := n) (by omega)
  have hp8 : pw n ≤ 256 := by have := pw_mono h8; simpa [pw] using this
  have hp1 := pw_pos n
  have e : ((pw n : Nat) : Int) - 1 = ((pw n - 1 : Nat) : Int) := by omega
  obtain ⟨M, hM⟩ : ∃ M, Hid (pw n - 1 = M) := ⟨_, Lib.hid rfl⟩
  rw [hM.out] at e ⊢
  have e2 := Lib.hid e
  clear e
  go_enter Tryd.func66, Tryd.ntmps66
  go_wp2
  go_ret
  exact Ret.mk (show Value.int .i64 _ = _ by rw [← e2.out]) (b1 _ _)
theorem knows_any (n B N : Nat) (s : Int) (w : World) (h8 : n ≤ 8) : Calls Tryd.prog 63 #[gV n B N, .int .i64 s] w (Ret (.bool (decide (0 ≤ s ∧ s < (pw n : Nat)))) w) := by
  have A := Lib.hid (fun W => all_any n B N W h8)
  have hp1 := pw_pos n
  obtain ⟨M, hM⟩ : ∃ M, Hid (pw n = M) := ⟨_, Lib.hid rfl⟩
  rw [hM.out] at A hp1 ⊢
  by_cases hs : 0 ≤ s
  · cases g : decide (s ≤ ((M - 1 : Nat) : Int))
    all_goals
      have g' := Lib.hid g
      go_enter Tryd.func63, Tryd.ntmps63
      go_wp2_with (go_at_call 66; refine (A.out _).mono ?_; rintro e w1 ⟨rfl, hb⟩)
      go_ret
      exact Ret.mk (ret_dec (by
        have g := g'.out
        simp only [decide_eq_true_eq, decide_eq_false_iff_not] at g
        simp only [Bool.false_eq_true, false_iff, true_iff]
        omega)) (nextB (b1 _ _) hb)
  · rw [decide_eq_false (show ¬ (0 ≤ s ∧ s < (M : Nat)) by omega)]
    go_enter Tryd.func63, Tryd.ntmps63
    go_wp2
    go_ret
    exact Ret.mk rfl (b1 _ _)
/-- Does a drover turn a set? -/
def turnB (f : Nat → Bool) (d s : Nat) : Bool := !(s.testBit d) && !(f s) && f (s + pw d)
/-- How many of the first k. -/
def cnt (p : Nat → Bool) : Nat → Nat
  | 0 => 0
  | k + 1 => cnt p k + if p k then 1 else 0
theorem cnt_le (p : Nat → Bool) (k : Nat) : cnt p k ≤ k := by
  induction k with
  | zero => simp [cnt]
  | succ k ih => rw [cnt]; split <;> omega
/-- Sets as numbers of the program. -/
def lN (L : List Nat) : List Int := L.map Int.ofNat
theorem lN_length (L : List Nat) : (lN L).length = L.length := by simp [lN]
theorem lN_snoc (L : List Nat) (k : Nat) : lN (L ++ [k]) = lN L ++ [(k : Int)] := by simp [lN]
theorem hasOne_lN (L : List Nat) (s : Nat) : hasOne (lN L) s = L.any fun o => inB o s := by
  unfold hasOne lN
  rw [List.any_map]
  rfl
theorem sets_lN {L : List Nat} {N : Nat} (h : ∀ o ∈ L, o < N) (hN : N ≤ 65536) : Sets (lN L) := fun x hx => by
  obtain ⟨o, ho, rfl⟩ := List.mem_map.1 hx
  have := h o ho
  show 0 ≤ (o : Int) ∧ (o : Int) < 65536
  omega
theorem leastL_mem (f : Nat → Bool) (k : Nat) : ∀ o ∈ leastL f k, o < k ∧ f o = true := by
  induction k with
  | zero => intro o ho; simp [leastL] at ho
  | succ k ih =>
    intro o ho
    rw [leastL] at ho
    split at ho
    · rename_i h
      rw [List.mem_append, List.mem_singleton] at ho
      rcases ho with ho | rfl
      · have := ih o ho; exact ⟨by omega, this.2⟩
      · rw [Bool.and_eq_true] at h; exact ⟨by omega, h.1⟩
    · have := ih o ho; exact ⟨by omega, this.2⟩
theorem leastL_len (f : Nat → Bool) (k : Nat) : (leastL f k).length ≤ k := by
  induction k with
  | zero => simp [leastL]
  | succ k ih =>
    rw [leastL]
    split
    · rw [List.length_append, List.length_singleton]; omega
    · omega
/-- A slice of numbers was returned. -/
def IntsR (L : List Int) (w : World) (e : Ending) (w' : World) : Prop := ∃ a c, e = .returned (.slice a L.length c) ∧ L.length ≤ c ∧ Ints w' a L ∧ Below w.heap.size w w'
set_option maxRecDepth 100000 in
set_option maxHeartbeats 1600000 in
theorem least_any (n B : Nat) (f : Nat → Bool) (w : World) (h8 : n ≤ 8) (hB : Bools w B (pw n) f) :
    Calls Tryd.prog 67 #[gV n B (pw n)] w (IntsR (lN (leastL f (pw n))) w) := by
  obtain ⟨i0, hi, hz0, hz1, hz2⟩ := info_parts infoInt
  have G0 := Lib.hid hi
  have G1 := Lib.hid hz0
  have G2 := Lib.hid hz1
  have G3 := Lib.hid hz2
  clear hi hz0 hz1 hz2
  have hp8 : pw n ≤ 256 := by have := pw_mono h8; simpa [pw] using this
  obtain ⟨N, hN⟩ : ∃ N, Hid (pw n = N) := ⟨_, Lib.hid rfl⟩
  rw [hN.out] at hp8 hB ⊢
  replace hB := Lib.hid hB
  have hle := Lib.hid (leastL_len f)
  have hme := Lib.hid (leastL_mem f)
  go_enter Tryd.func67, Tryd.ntmps67
  go_wp2
  have hB1 := Lib.hid (hB.out.next (b1 w (.cells #[.int .i64 (n : Nat), .slice (some ⟨B, 0, none⟩) N N] 96)))
  go_loopw [3, 4, 5, 9] (fun v _ _ i wr => ∃ k : Nat, k ≤ N ∧ i = .int .i64 k ∧ wr.ownsRow w.heap.size 3 1 v (lN (leastL f k)).length (lI (lN (leastL f k))) ∧ Bools wr B N f ∧ Below w.heap.size w wr) (fun _ _ _ i _ => N - (intOf i).toNat)
  case atStart => exact ⟨0, by omega, rfl, World.ownsRow_nil _ _ _ _, hB1.out, b1 _ _⟩
  case round =>
    clear hB1
    obtain ⟨k, hk, rfl, hown, hBw, B0⟩ := hrel
    obtain ⟨a, c, rfl, hc, hI⟩ := own_intsA hown rfl
    by_cases hlt : k < N
    · have hki : (k : Int) < (N : Int) := by omega
      have x0 := hBw k hlt
      have hl := hle.out k
      have hst := Lib.hid (show leastL f (k + 1) = if f k && !((leastL f k).any fun o => inB o k) then leastL f k ++ [k] else leastL f k from rfl)
      have C := Lib.hid (containsOne_any a _ c (lN (leastL f k)) k wr hI rfl (by rw [lN_length]; omega) (by omega) (sets_lN (fun o ho => (hme.out k o ho).1) (by omega)))
      rw [hasOne_lN] at C
      have hl2 := lN_length (leastL f k)
      have hl3 : (lN (leastL f k)).length ≤ k := by omega
      clear hl hl2
      generalize hL : leastL f k = L at hown hst C hc hI hl3
      replace hL := Lib.hid hL
      generalize hm : (lN L).length = m at hown hst C hc hI hl3
      replace hm := Lib.hid hm
      cases g : f k
      · rw [g] at x0 hst
        replace g := Lib.hid g
        replace hBw := Lib.hid hBw
        go_wp2
        go_roundw
        case rel => exact ⟨k + 1, by omega, by go_num, by rw [hst.out]; simp only [Bool.false_and, Bool.false_eq_true, if_false]; rw [hm.out]; exact hown, hBw.out, B0⟩
        case measure => simp [intOf]; omega
      · rw [g] at x0 hst
        replace g := Lib.hid g
        cases g2 : L.any fun o => inB o k
        · rw [g2] at C hst
          replace g2 := Lib.hid g2
          replace hBw := Lib.hid hBw
          go_wp2_with (first
            | (go_at_call 89; refine C.out.mono ?_; rintro e w1 ⟨rfl, hb1⟩; replace hown := owns_next hown hb1; replace hBw := Lib.hid (hBw.out.next hb1); replace B0 := nextB B0 hb1)
            | (at_builtin; refine wpList_append_own _ rfl _ _ 22 rfl w.heap.size 3 i0 (.int .i64 0) 1 8 Tryd.underlying22 G0.out G1.out G2.out G3.out rfl (by decide) _ _ _ rfl (hown.alloc _) ⟨_, 0, none⟩ 1 1 [.int .i64 (k : Int)] rfl rfl (cell_one_new _ _ _) (by simp [Value.oneCell']) (by unfold maxLen; omega) (by omega) (by have := B0.size; simp; omega) ?_; intro v' w2 hown2 hgrow _))
          have hsz := B0.size
          have B2 := (B0.alloc hsz _).grown hgrow (by simp; omega) (fun q hq => by have := (hown.lt q hq).1; omega)
          go_roundw
          case rel => exact ⟨k + 1, by omega, by go_num, by
            rw [hst.out]
            simp only [Bool.not_false, Bool.and_true, if_true]
            rw [lN_snoc, List.length_append, hm.out, lI_snoc]; exact hown2, hB.out.next B2, B2⟩
          case measure => simp [intOf]; omega
        · rw [g2] at C hst
          replace g2 := Lib.hid g2
          replace hBw := Lib.hid hBw
          go_wp2_with (go_at_call 89; refine C.out.mono ?_; rintro e w1 ⟨rfl, hb1⟩; replace hown := owns_next hown hb1; replace hBw := Lib.hid (hBw.out.next hb1); replace B0 := nextB B0 hb1)
          go_roundw
          case rel => exact ⟨k + 1, by omega, by go_num, by rw [hst.out]; simp only [Bool.not_true, Bool.and_false, Bool.false_eq_true, if_false]; rw [hm.out]; exact hown, hBw.out, B0⟩
          case measure => simp [intOf]; omega
    · obtain rfl : k = N := by omega
      go_wp2
      go_ret
      exact ⟨a, c, rfl, hc, hI, B0⟩
end
section
open Go Go.RowKit

/-- The i-th set of a rule is a set, greater than the one ahead of it, and contains none ahead of it. -/
def RuleOk (n : Nat) (R : List Int) (i : Nat) : Prop := 1 ≤ nth R i ∧ nth R i < ((pw n : Nat) : Int) ∧ (0 < i → nth R (i - 1) < nth R i) ∧ hasOne (R.take i) (nth R i).toNat = false
def RulesTo (n : Nat) (R : List Int) (k : Nat) : Prop := ∀ i, i < k → RuleOk n R i
/-- A rule of n drovers. -/
def RuleP (n : Nat) (R : List Int) : Prop := 1 ≤ n ∧ n ≤ 5 ∧ 0 < R.length ∧ RulesTo n R R.length
instance (n : Nat) (R : List Int) (i : Nat) : Decidable (RuleOk n R i) := by unfold RuleOk; infer_instance
instance (n : Nat) (R : List Int) (k : Nat) : Decidable (RulesTo n R k) := by unfold RulesTo; infer_instance
instance (n : Nat) (R : List Int) : Decidable (RuleP n R) := by unfold RuleP; infer_instance
theorem RulesTo.succ {n : Nat} {R : List Int} {k : Nat} (h : RulesTo n R k) (hk : RuleOk n R k) : RulesTo n R (k + 1) := fun i hi => by
  by_cases e : i = k
  · subst e; exact hk
  · exact h i (by omega)
theorem _root_.Go.Proofs.YtbdhceolchhnjaaDoor.Ints.take {w : World} {a : Option Addr} {R : List Int} {k : Nat} (h : Ints w a R) (hk : k ≤ R.length) : Ints w a (R.take k) := by
  rcases h with h | ⟨b, off, e, hc⟩
  · exact .inl (by simp; omega)
  · refine .inr ⟨b, off, e, fun i hi => ?_⟩
    have hi' : i < k := by simp at hi; omega
    have : nth (R.take k) i = nth R i := by simp [nth, hi']
    rw [this]
    exact hc i (by omega)
theorem RulesTo.sets {n : Nat} {R : List Int} {k : Nat} (h : RulesTo n R k) (hn : n ≤ 8) (hk : k ≤ R.length) : Sets (R.take k) := fun x hx => by
  obtain ⟨i, hi, rfl⟩ := mem_nth hx
  have hi' : i < k := by simp at hi; omega
  have e : nth (R.take k) i = nth R i := by simp [nth, hi']
  have := h i hi'
  have hp8 : pw n ≤ 256 := by have := pw_mono hn; simpa [pw] using this
  rw [e]
  unfold RuleOk at this
  omega
set_option maxRecDepth 100000 in
set_option maxHeartbeats 4000000 in
theorem isRule_any (a : Option Addr) (m c n : Nat) (R : List Int) (w : World) (h : Ints w a R) (hl : R.length = m) (hm : m ≤ 1000) (hmc : m ≤ c) (h1 : 1 ≤ n) (h5 : n ≤ 8) :
    Calls Tryd.prog 87 #[.int .i64 (n : Nat), .slice a m c] w (Ret (.bool (decide (0 < m ∧ RulesTo n R m))) w) := by
  have sh := wrap_shl (k := n) (by omega)
  have hp8 : pw n ≤ 256 := by have := pw_mono h5; simpa [pw] using this
  have hp1 := pw_pos n
  by_cases h0 : m = 0
  · subst h0
    rw [decide_eq_false (by omega)]
    clear hl h hp1 hp8 sh
    go_enter Tryd.func87, Tryd.ntmps87
    go_wp2
    go_loop [5, 6, 9] (fun _ _ i => i = .int .i64 0) (fun _ _ _ => 0)
    case atStart => rfl
    case round =>
      subst hrel
      go_wp2
      go_ret
      exact Ret.mk rfl (Below.refl _ _)
  · obtain ⟨b, off, rfl, hc⟩ := ints_at h (by omega)
    rw [hl] at hc
    replace hc := Lib.hid hc
    have hb : b < w.heap.size := block_lt_of_cell (hc.out 0 (by omega))
    have C := Lib.hid (fun k (hk : k < m) (x : Nat) (hx : x < 65536) (hR : RulesTo n R k) W (hW : Below w.heap.size w W) => containsOne_any (some ⟨b, off, none⟩) k c (R.take k) x W ((h.next hW).take (by omega)) (by simp; omega) (by omega) hx (hR.sets h5 (by omega)))
    have hl' := Lib.hid hl
    clear h hl
    obtain ⟨N, hN⟩ : ∃ N, Hid (pw n = N) := ⟨_, Lib.hid rfl⟩
    rw [hN.out] at hp8 hp1 sh
    have hm0 : 0 < m := by omega
    clear h0
    go_enter Tryd.func87, Tryd.ntmps87
    go_wp2
    go_loopw [5, 6, 9] (fun _ _ i wr => ∃ k : Nat, k ≤ m ∧ i = .int .i64 k ∧ RulesTo n R k ∧ Below w.heap.size w wr) (fun _ _ i _ => m - (intOf i).toNat)
    case atStart => exact ⟨0, by omega, rfl, fun i hi => absurd hi (by omega), Below.refl _ _⟩
    case round =>
      obtain ⟨k, hk, rfl, hR, B0⟩ := hrel
      have hRk := Lib.hid hR
      clear hR
      by_cases hlt : k < m
      · have hki : (k : Int) < (m : Int) := by omega
        have hkc : k ≤ c := by omega
        have x0 := cellB B0 (hc.out k hlt)
        have hok := Lib.hid (show RuleOk n R k ↔ 1 ≤ nth R k ∧ nth R k < ((N : Nat) : Int) ∧ (0 < k → nth R (k - 1) < nth R k) ∧ hasOne (R.take k) (nth R k).toNat = false by rw [← hN.out]; exact Iff.rfl)
        have hno := Lib.hid (fun (h : ¬ RuleOk n R k) => (show decide (0 < m ∧ RulesTo n R m) = false from decide_eq_false (fun h2 => h (h2.2 k hlt))))
        have CC := Lib.hid (fun x hx W hW => C.out k hlt x hx hRk.out W hW)
        obtain ⟨p, hp, hpc⟩ : ∃ p, Hid (0 < k → nth R (k - 1) = p) ∧ (0 < k → wr.cell? ⟨b, off + (k - 1), none⟩ = some (.int .i64 p)) := ⟨_, Lib.hid (fun _ => rfl), fun h0 => cellB B0 (hc.out (k - 1) (by omega))⟩
        obtain ⟨x, hx⟩ : ∃ x, Hid (nth R k = x) := ⟨_, Lib.hid rfl⟩
        rw [hx.out] at x0 hok
        cases g1 : decide (x < 1)
        · cases g2 : decide (((N : Nat) : Int) ≤ x)
          · have hx1 : 1 ≤ x := by have := of_decide_eq_false g1; omega
            have hx2 : x < N := by have := of_decide_eq_false g2; omega
            obtain ⟨y, rfl⟩ : ∃ y : Nat, x = y := ⟨x.toNat, by omega⟩
            have CY := CC.out y (by omega)
            simp only [Int.toNat_natCast] at hok
            have hw1 : wr.heap.size = wr.heap.size := rfl
            by_cases hk0 : 0 < k
            · have p0 := hpc hk0
              have p1 := hp.out hk0
              rw [p1] at hok
              have hk1 : (0 : Int) < (k : Int) := by omega
              have hkm : ((k - 1 : Nat) : Int) < (m : Int) := by omega
              have wk : wrap64 ((k : Int) - 1) = ((k - 1 : Nat) : Int) := by rw [IntWalk.wrap64_in _ ⟨by omega, by omega⟩]; omega
              cases g3 : decide ((y : Int) ≤ p)
              · cases g4 : hasOne (R.take k) y
                · rw [g4] at CY
                  have p1' := Lib.hid p1
                  have hok1 := Lib.hid (hRk.out.succ (hok.out.2 ⟨hx1, hx2, fun _ => by have := of_decide_eq_false g3; omega, g4⟩))
                  replace g4 := Lib.hid g4
                  clear p1 hpc
                  go_wp2_with (go_at_call 89; refine (CY _ B0).mono ?_; rintro e w1 ⟨rfl, hb1⟩)
                  go_roundw
                  case rel => exact ⟨k + 1, by omega, by go_num, hok1.out, nextB B0 hb1⟩
                  case measure => simp [intOf]; omega
                · rw [g4] at CY
                  rw [hno.out (fun h => by have := (hok.out.1 h).2.2.2; rw [g4] at this; cases this)]
                  have p1' := Lib.hid p1
                  replace g4 := Lib.hid g4
                  clear p1 hpc
                  go_wp2_with (go_at_call 89; refine (CY _ B0).mono ?_; rintro e w1 ⟨rfl, hb1⟩)
                  go_ret
                  exact Ret.mk rfl (nextB B0 hb1)
              · rw [hno.out (fun h => by have := (hok.out.1 h).2.2.1 hk0; have := of_decide_eq_true g3; omega)]
                have p1' := Lib.hid p1
                clear p1 hpc
                go_wp2_with fail
                go_ret
                exact Ret.mk rfl B0
            · have hk1 : k = 0 := by omega
              subst hk1
              clear hpc
              rw [Nat.add_zero] at x0
              have hki0 : (0 : Int) < (m : Int) := by omega
              cases g4 : hasOne (R.take 0) y
              · rw [g4] at CY
                have hok1 := Lib.hid (hRk.out.succ (hok.out.2 ⟨hx1, hx2, fun h => absurd h hk0, g4⟩))
                replace g4 := Lib.hid g4
                go_wp2_with (go_at_call 89; refine (CY _ B0).mono ?_; rintro e w1 ⟨rfl, hb1⟩)
                go_roundw
                case rel => exact ⟨1, by omega, by go_num, hok1.out, nextB B0 hb1⟩
                case measure => simp [intOf]; omega
              · exact absurd g4 (by simp [hasOne])
          · rw [hno.out (fun h => by have := (hok.out.1 h).2.1; have := of_decide_eq_true g2; omega)]
            clear hpc
            go_wp2_with fail
            go_ret
            exact Ret.mk rfl B0
        · rw [hno.out (fun h => by have := (hok.out.1 h).1; have := of_decide_eq_true g1; omega)]
          clear hpc
          go_wp2_with fail
          go_ret
          exact Ret.mk rfl B0
      · obtain rfl : k = m := by omega
        have hmi : (0 : Int) < (k : Int) := by omega
        go_wp2_with fail
        go_ret
        exact Ret.mk (show Value.bool true = _ by rw [decide_eq_true (show 0 < k ∧ RulesTo n R k from ⟨hm0, hRk.out⟩)]) B0
theorem enters74 (args : Array Value) (W : World) : (callFunc 88 args).run Tryd.prog W = .ok (.enter 88 args) W := by go_simp
theorem gameOfRule1_any (q3 : Addr) (a : Option Addr) (m c s : Nat) (R : List Int) (w : World) (hq : w.cell? q3 = some (.slice a m c)) (h : Ints w a R) (hl : R.length = m) (hm : m ≤ 1000) (hs : s < 65536) (hR : Sets R) :
    Calls Tryd.prog 88 #[.int .i64 (s : Nat), .pointer (some q3)] w (Ret (.bool (hasOne R s)) w) := by
  have C := Lib.hid (containsOne_any a m c R s w h hl hm hs hR)
  clear h hl
  go_enter Tryd.func88, Tryd.ntmps88
  go_wp2_with (go_at_call 89; refine C.out.mono ?_; rintro e w1 ⟨rfl, hb1⟩)
  go_ret
  exact Ret.mk rfl hb1
/-- The game of a rule. -/
def RuleR (n : Nat) (R : List Int) (w : World) (e : Ending) (w' : World) : Prop := ∃ B, e = .returned (.tuple #[gV n B (pw n), .bool true]) ∧ w.heap.size ≤ B ∧ Bools w' B (pw n) (hasOne R) ∧ Below w.heap.size w w'
theorem gor_out (a : Option Addr) (m c : Nat) (n : Int) (w : World) (hn : n < 1 ∨ 5 < n) :
    Calls Tryd.prog 62 #[.int .i64 n, .slice a m c] w (Ret noGame w) := by
  rcases hn with hn | hn
  all_goals
    go_enter Tryd.func62, Tryd.ntmps62
    go_wp2
    exact bodyPost_ret (v := noGame) (by simp [results, Tryd.results62, go_sem]) rfl (Ret.mk rfl (b2 _ _ _))
theorem res_cell (w : World) (cs : Array Value) (t : TypeId) : Blk ((w.alloc (.cells cs t)).alloc (.cells #[.int .i64 0, .slice none 0 0] 96)) (w.heap.size + 1) 96 #[.int .i64 0, .slice none 0 0] := by
  have := Blk.new (w.alloc (.cells cs t)) 96 #[.int .i64 0, .slice none 0 0]
  simpa using this
set_option maxRecDepth 100000 in
set_option maxHeartbeats 1600000 in
theorem gor_in (a : Option Addr) (m c n : Nat) (R : List Int) (w : World) (h : Ints w a R) (hl : R.length = m) (hm : m ≤ 1000) (hmc : m ≤ c) (h1 : 1 ≤ n) (h5 : n ≤ 5) :
    Calls Tryd.prog 62 #[.int .i64 (n : Nat), .slice a m c] w (fun e w' => (RuleP n R → RuleR n R w e w') ∧ (¬ RuleP n R → Ret noGame w e w')) := by
  have I := Lib.hid (fun W hW => isRule_any a m c n R W hW hl hm hmc h1 (by omega))
  have hP : Hid (RuleP n R ↔ 0 < m ∧ RulesTo n R m) := Lib.hid ⟨fun h => ⟨by have := h.2.2.1; omega, by have := h.2.2.2; rwa [hl] at this⟩, fun h => ⟨h1, h5, by omega, by rw [hl]; exact h.2⟩⟩
  have hSet := Lib.hid (fun (h2 : RulesTo n R m) => (show Sets R by have := h2.sets (k := m) (by omega) (by omega); rwa [List.take_of_length_le (by omega)] at this))
  have NG := Lib.hid (fun caps f W => newGame_any n 88 caps f W h1 (by omega) enters74)
  have hh := Lib.hid h
  have hl' := Lib.hid hl
  clear h hl
  have hp8 : pw n ≤ 256 := by have := pw_mono (show n ≤ 8 by omega); simpa [pw] using this
  cases g : decide (0 < m ∧ RulesTo n R m)
  · rw [g] at I
    have hno := Lib.hid (fun (h : RuleP n R) => (show False from (of_decide_eq_false g) (hP.out.1 h)))
    clear g
    go_enter Tryd.func62, Tryd.ntmps62
    go_wp2_with (go_at_call 87; refine (I.out _ (hh.out.next (b2 _ _ _))).mono ?_; rintro e w1 ⟨rfl, hb1⟩; have hR := (res_cell w #[.slice a m c] 22).ext hb1; have B1 := nextB (b2 _ _ _) hb1; have r0 := hR.c 0 rfl; have r1 := hR.c 1 rfl; have f0 := hR.fr 0; have f1 := hR.fr 1; have hQ := hR.set2 (.int .i64 0) (.slice none 0 0); have s0 := hQ.c 0 rfl; have s1 := hQ.c 1 rfl; replace hQ := Lib.hid hQ; replace hR := Lib.hid hR)
    refine bodyPost_ret (v := noGame) (by simp [results, Tryd.results62, go_sem, s0, s1]) rfl ?_
    exact ⟨fun h => absurd h hno.out, fun _ => Ret.mk rfl ((B1.setCell (Nat.le_succ _) _).setCell (Nat.le_succ _) _)⟩
  · rw [g] at I
    have hyes := Lib.hid (hP.out.2 (of_decide_eq_true g))
    have hS := hSet.out (of_decide_eq_true g).2
    clear g
    obtain ⟨N, hN⟩ : ∃ N, Hid (pw n = N) := ⟨_, Lib.hid rfl⟩
    have HN := Lib.hid (fun W (h0 : Blk W w.heap.size 22 #[.slice a m c]) (hW : Ints W a R) => NG.out #[.pointer (some ⟨w.heap.size, 0, none⟩)] (hasOne R) W (fun W' hW' s hs =>
      gameOfRule1_any ⟨w.heap.size, 0, none⟩ a m c s R W' ((h0.ext hW').c 0 rfl) (hW.next hW') hl'.out hm (by omega) hS))
    unfold GameR at HN
    rw [hN.out] at HN
    go_enter Tryd.func62, Tryd.ntmps62
    go_wp2_with (first
      | (go_at_call 87; refine (I.out _ (hh.out.next (b2 _ _ _))).mono ?_; rintro e w1 ⟨rfl, hb1⟩; have hR := Lib.hid ((res_cell w #[.slice a m c] 22).ext hb1); have h0 := Lib.hid (((Blk.new w 22 #[.slice a m c]).alloc (.cells #[.int .i64 0, .slice none 0 0] 96)).ext hb1); have B1 := nextB (b2 _ _ _) hb1)
      | (go_at_call 64; refine (HN.out _ h0.out (hh.out.next B1)).mono ?_; rintro e w3 ⟨B, rfl, hgB, hB, hb3⟩; have hR3 := hR.out.ext hb3; have r0 := hR3.c 0 rfl; have r1 := hR3.c 1 rfl; have f0 := hR3.fr 0; have f1 := hR3.fr 1; replace hR3 := Lib.hid hR3; replace hB := Lib.hid hB))
    have hQ := hR3.out.set2 (.int .i64 (n : Nat)) (.slice (some ⟨B, 0, none⟩) N N)
    have s0 := hQ.c 0 rfl
    have s1 := hQ.c 1 rfl
    have hlt := hR.out.lt
    refine bodyPost_ret (v := .tuple #[gV n B N, .bool true]) (by simp [results, Tryd.results62, go_sem, s0, s1]) rfl ?_
    have hsz := B1.size
    refine ⟨fun _ => ⟨B, by rw [hN.out], by omega, ?_, ?_⟩, fun h => absurd hyes.out h⟩
    · rw [hN.out]
      exact (hB.out.other (by omega) _).other (by omega) _
    · exact ((nextB B1 hb3).setCell (Nat.le_succ _) _).setCell (Nat.le_succ _) _
theorem gor_any (a : Option Addr) (m c n : Nat) (R : List Int) (w : World) (h : Ints w a R) (hl : R.length = m) (hm : m ≤ 1000) (hmc : m ≤ c) :
    Calls Tryd.prog 62 #[.int .i64 (n : Nat), .slice a m c] w (fun e w' => (RuleP n R → RuleR n R w e w') ∧ (¬ RuleP n R → Ret noGame w e w')) := by
  by_cases hn : n < 1 ∨ 5 < n
  · exact (gor_out a m c n w (by omega)).mono fun e w' hr => ⟨fun h => absurd h (fun h => by have := h.1; have := h.2.1; omega), fun _ => hr⟩
  · exact gor_in a m c n R w h hl hm hmc (by omega) (by omega)
/-- A rule, n being any number. -/
def RuleI (n : Int) (R : List Int) : Prop := 1 ≤ n ∧ RuleP n.toNat R
instance (n : Int) (R : List Int) : Decidable (RuleI n R) := by unfold RuleI; infer_instance
theorem gor_yes (a : Option Addr) (m c n : Nat) (R : List Int) (w : World) (h : Ints w a R) (hl : R.length = m) (hm : m ≤ 1000) (hmc : m ≤ c) (hR : RuleP n R) :
    Calls Tryd.prog 62 #[.int .i64 (n : Nat), .slice a m c] w (RuleR n R w) := (gor_any a m c n R w h hl hm hmc).mono fun _ _ hr => hr.1 hR
theorem gor_no (a : Option Addr) (m c : Nat) (n : Int) (R : List Int) (w : World) (h : Ints w a R) (hl : R.length = m) (hm : m ≤ 1000) (hmc : m ≤ c) (hR : ¬ RuleI n R) :
    Calls Tryd.prog 62 #[.int .i64 n, .slice a m c] w (Ret noGame w) := by
  by_cases hn : n < 1
  · exact gor_out a m c n w (.inl hn)
  · obtain ⟨k, rfl⟩ : ∃ k : Nat, n = k := ⟨n.toNat, by omega⟩
    exact (gor_any a m c k R w h hl hm hmc).mono fun _ _ hr => hr.2 (fun h => hR ⟨by omega, by simpa using h⟩)
end
section
open Go Go.RowKit

abbrev bodyV (q : Int) (a : Option Addr) (n c : Nat) : Value := .agg #[.int .i64 q, .slice a n c]
/-- A list of numbers was returned, without an error. -/
def GotI (L : List Int) (w : World) (e : Ending) (w' : World) : Prop := ∃ a c, e = .returned (.tuple #[.slice a L.length c, .int .i64 0]) ∧ L.length ≤ c ∧ Ints w' a L ∧ Below w.heap.size w w'
abbrev errV (v : Value) : Value := .tuple #[v, .int .i64 2]
section
variable (q : Int) (a : Option Addr) (n c : Nat) (ws : List Int) (w : World)
theorem gor_at (m : Nat) (R : List Int) (h : Ints w a R) (hl : R.length = m) (hm : m ≤ 1000) (hmc : m ≤ c) (hR : RuleP n R) (N : Nat) (hN : pw n = N) :
    Calls Tryd.prog 62 #[.int .i64 (n : Nat), .slice a m c] w (fun e w' => ∃ B, e = .returned (.tuple #[.agg #[.int .i64 (n : Nat), .slice (some ⟨B, 0, none⟩) N N], .bool true]) ∧ w.heap.size ≤ B ∧ Bools w' B N (hasOne R) ∧ Below w.heap.size w w') := by
  have := gor_yes a m c n R w h hl hm hmc hR
  unfold RuleR at this
  rw [hN] at this
  exact this
theorem Rules_no (m : Nat) (x s : Int) (R : List Int) (h : Ints w a R) (hl : R.length = m) (hm : m ≤ 1000) (hmc : m ≤ c) (hR : ¬ RuleI x R) :
    Calls Tryd.prog 37 #[.int .i64 x, .slice a m c, .int .i64 s] w (Ret (errV (.bool false)) w) := by
  have K := Lib.hid (fun W hW => gor_no a m c x R W hW hl hm hmc hR)
  have h := Lib.hid h
  clear hl
  go_enter Tryd.func37, Tryd.ntmps37
  go_wp2_with (go_at_call 62; refine (K.out _ h.out).mono ?_; rintro e w1 ⟨rfl, hb1⟩)
  go_ret2
  exact Ret.mk rfl (nextB hb1 (b1 _ _))
theorem Rules_out (m : Nat) (s : Int) (R : List Int) (h : Ints w a R) (hl : R.length = m) (hm : m ≤ 1000) (hmc : m ≤ c) (hR : RuleP n R) (hs : ¬ (0 ≤ s ∧ s < ((pw n : Nat) : Int))) :
    Calls Tryd.prog 37 #[.int .i64 (n : Nat), .slice a m c, .int .i64 s] w (Ret (errV (.bool false)) w) := by
  have h8 : n ≤ 8 := by have := hR.2.1; omega
  obtain ⟨N, hN⟩ : ∃ N, Hid (pw n = N) := ⟨_, Lib.hid rfl⟩
  have K := Lib.hid (fun W hW => gor_at a n c W m R hW hl hm hmc hR N hN.out)
  have A := Lib.hid (fun B W => knows_any n B N s W h8)
  rw [decide_eq_false hs] at A
  have h := Lib.hid h
  clear hl hs
  go_enter Tryd.func37, Tryd.ntmps37
  go_wp2_with (first
    | (go_at_call 62; refine (K.out _ h.out).mono ?_; rintro e w1 ⟨B, rfl, hg, hBo, hb1⟩; replace hBo := Lib.hid hBo)
    | (go_at_call 63; refine (A.out _ _).mono ?_; rintro e w2 ⟨rfl, hb2⟩))
  go_ret2
  exact Ret.mk rfl (nextB hb1 (nextB (b1 _ _) hb2))
theorem Rules_yes (m s : Nat) (R : List Int) (h : Ints w a R) (hl : R.length = m) (hm : m ≤ 1000) (hmc : m ≤ c) (hR : RuleP n R) (hs : s < pw n) :
    Calls Tryd.prog 37 #[.int .i64 (n : Nat), .slice a m c, .int .i64 (s : Nat)] w (Ret (.tuple #[.bool (hasOne R s), .int .i64 0]) w) := by
  have h8 : n ≤ 8 := by have := hR.2.1; omega
  obtain ⟨N, hN⟩ : ∃ N, Hid (pw n = N) := ⟨_, Lib.hid rfl⟩
  have K := Lib.hid (fun W hW => gor_at a n c W m R hW hl hm hmc hR N hN.out)
  have A := Lib.hid (fun B W => knows_any n B N s W h8)
  rw [decide_eq_true (show 0 ≤ (s : Int) ∧ (s : Int) < ((pw n : Nat) : Int) by omega)] at A
  have h := Lib.hid h
  rw [hN.out] at hs
  have hsi : (s : Int) < (N : Int) := by omega
  clear hl
  go_enter Tryd.func37, Tryd.ntmps37
  go_wp2_with (first
    | (go_at_call 62; refine (K.out _ h.out).mono ?_; rintro e w1 ⟨B, rfl, hg, hBo, hb1⟩; replace hBo := Lib.hid (hBo.next (b1 w1 (.cells #[.int .i64 (n : Nat), .slice (some ⟨B, 0, none⟩) N N] 96))); have hg0 := Lib.hid (Blk.new w1 96 #[.int .i64 (n : Nat), .slice (some ⟨B, 0, none⟩) N N]))
    | (go_at_call 63; refine (A.out _ _).mono ?_; rintro e w2 ⟨rfl, hb2⟩; have x0 := (hBo.out.next hb2) s hs; have x1 := (hg0.out.ext hb2).c 1 rfl))
  go_ret2
  exact Ret.mk rfl (nextB hb1 (nextB (b1 _ _) hb2))
end
end
section
open Go Go.RowKit

/-- The drovers of a that are not in b. -/
def dif (a b : Nat) : Nat := a ^^^ (a &&& b)
theorem dif_test (a b i : Nat) : (dif a b).testBit i = (a.testBit i && !(b.testBit i)) := by
  unfold dif
  rw [Nat.testBit_xor, Nat.testBit_and]
  cases a.testBit i <;> cases b.testBit i <;> rfl
theorem dif_zero {a b : Nat} : dif a b = 0 ↔ inB a b = true := by
  rw [inB_iff]
  constructor
  · intro h i hi
    have := dif_test a b i
    rw [h, hi] at this
    simpa using this
  · intro h
    apply Nat.eq_of_testBit_eq
    intro i
    rw [dif_test, Nat.zero_testBit]
    cases ha : a.testBit i
    · rfl
    · rw [h i ha]; rfl
theorem andNot_bv (a b : Nat) (ha : a < 9223372036854775808) (_hb : b < 9223372036854775808) : (BitVec.ofNat 64 a &&& ~~~ (BitVec.ofNat 64 b)).toNat = dif a b := by
  apply Nat.eq_of_testBit_eq
  intro i
  rw [BitVec.testBit_toNat, BitVec.getLsbD_and, BitVec.getLsbD_not, BitVec.getLsbD_ofNat, BitVec.getLsbD_ofNat, dif_test]
  have h2 : ∀ c, c < 9223372036854775808 → 64 ≤ i → c.testBit i = false := fun c hc hi => Nat.testBit_lt_two_pow (Nat.lt_of_lt_of_le hc (Nat.le_trans (by decide) (Nat.pow_le_pow_right (by omega) hi)))
  by_cases hi : i < 64
  · simp [hi]
  · rw [h2 a ha (by omega)]; simp
theorem dif_le (a b : Nat) : dif a b ≤ a := inB_le (inB_iff.2 fun i hi => by rw [dif_test] at hi; simp at hi; exact hi.1)
theorem i64_andNot_nat (a b : Nat) (ha : a < 9223372036854775808) (hb : b < 9223372036854775808) : bits .andNot .i64 (a : Int) (b : Int) = ((dif a b : Nat) : Int) := by
  have h1 := dif_le a b
  show IntKind.i64.wrap ((BitVec.ofInt 64 (a : Int) &&& ~~~ BitVec.ofInt 64 (b : Int)).toNat : Int) = _
  rw [BitVec.ofInt_natCast, BitVec.ofInt_natCast, andNot_bv a b ha hb, IntKind.wrap_i64]
  omega
theorem i64_xor_nat (a b : Nat) (ha : a < 9223372036854775808) (hb : b < 9223372036854775808) : bits .xor .i64 (a : Int) (b : Int) = ((a ^^^ b : Nat) : Int) := by
  have hx : a ^^^ b < 2 ^ 63 := Nat.xor_lt_two_pow (by omega) (by omega)
  show IntKind.i64.wrap ((BitVec.ofInt 64 (a : Int) ^^^ BitVec.ofInt 64 (b : Int)).toNat : Int) = _
  rw [BitVec.toNat_xor, ofInt_u64 a (by omega), ofInt_u64 b (by omega), IntKind.wrap_i64]
  omega
theorem full_test (n i : Nat) : (pw n - 1).testBit i = decide (i < n) := Nat.testBit_two_pow_sub_one n i
theorem inB_full {s n : Nat} (h : s < pw n) : inB s (pw n - 1) = true := inB_iff.2 fun i hi => by rw [full_test]; exact decide_eq_true (test_lt h hi)
theorem and_full {s n : Nat} (h : s < pw n) : (pw n - 1) &&& s = s := by
  have := inB_full h
  unfold inB at this
  rw [beq_iff_eq] at this
  first | exact this | (rw [Nat.and_comm]; exact this)
/-- The drovers that are not in a set. -/
theorem dif_full {s n : Nat} (h : s < pw n) : dif (pw n - 1) s = pw n - 1 - s := by
  have h2 : pw n - 1 - s = dif (pw n - 1) s := by
    apply Nat.eq_of_testBit_eq
    intro i
    rw [dif_test, full_test]
    unfold pw
    rw [show 2 ^ n - 1 - s = 2 ^ n - (s + 1) by omega, Nat.testBit_two_pow_sub_succ h]
  exact h2.symm
theorem wsum_mono {ws : List Int} (hw : Wts ws) {a b : Nat} (h : inB a b = true) : ∀ k, k ≤ ws.length → wsum ws a k ≤ wsum ws b k := by
  intro k
  induction k with
  | zero => intro _; exact Int.le_refl _
  | succ k ih =>
    intro hk
    have h1 := ih (by omega)
    have h2 := hw k (by omega)
    rw [wsum, wsum]
    have h3 : bt a k ≤ bt b k := by
      have h4 := bt_lt a k
      rcases (show bt a k = 0 ∨ bt a k = 1 by omega) with h5 | h5
      · omega
      · have := bt_one.2 (inB_iff.1 h k (bt_one.1 h5)); omega
    have h4 := bt_lt b k
    rcases (show bt a k = 0 ∨ bt a k = 1 by have := bt_lt a k; omega) with h5 | h5 <;> rcases (show bt b k = 0 ∨ bt b k = 1 by omega) with h6 | h6 <;> rw [h5, h6] <;> omega
theorem wsum_zero (ws : List Int) : ∀ k, wsum ws 0 k = 0 := by
  intro k
  induction k with
  | zero => rfl
  | succ k ih => rw [wsum, ih]; simp [bt]
theorem game_body {q : Int} {ws : List Int} (h : BodyP q ws) : Game ws.length (winB q ws) where
  zero := by
    unfold winB
    rw [wsum_zero]
    have := h.2.2.2.1
    exact decide_eq_false (by omega)
  full := decide_eq_true h.2.2.2.2
  mono := fun a b _ _ hab ha => by
    unfold winB at *
    have h1 := of_decide_eq_true ha
    have h2 := wsum_mono h.2.2.1 hab ws.length (Nat.le_refl _)
    exact decide_eq_true (by omega)
theorem hasOne_iff {R : List Int} {s : Nat} : hasOne R s = true ↔ ∃ i, i < R.length ∧ inB (nth R i).toNat s = true := by
  unfold hasOne
  rw [List.any_eq_true]
  constructor
  · rintro ⟨x, hx, h⟩
    obtain ⟨i, hi, rfl⟩ := mem_nth hx
    exact ⟨i, hi, h⟩
  · rintro ⟨i, hi, h⟩
    exact ⟨_, nth_mem hi, h⟩
theorem game_rule {n : Nat} {R : List Int} (h : RuleP n R) : Game n (hasOne R) where
  zero := by
    cases hf : hasOne R 0
    · rfl
    · obtain ⟨i, hi, h1⟩ := hasOne_iff.1 hf
      have h2 := (h.2.2.2 i hi).1
      have := inB_le h1
      omega
  full := by
    obtain ⟨h1, h2, _⟩ := h.2.2.2 0 h.2.2.1
    exact hasOne_iff.2 ⟨0, h.2.2.1, inB_full (by omega)⟩
  mono := fun a b _ _ hab ha => by
    obtain ⟨i, hi, h1⟩ := hasOne_iff.1 ha
    exact hasOne_iff.2 ⟨i, hi, inB_trans h1 hab⟩
/-- The set of the drovers of which p says yes. -/
def setOf (p : Nat → Bool) : Nat → Nat
  | 0 => 0
  | k + 1 => setOf p k + if p k then pw k else 0
theorem setOf_lt (p : Nat → Bool) (k : Nat) : setOf p k < pw k := by
  induction k with
  | zero => simp [setOf, pw]
  | succ k ih => rw [setOf, pw_succ]; split <;> omega
theorem setOf_or (p : Nat → Bool) (k : Nat) : setOf p k ||| pw k = setOf p k + pw k := or_eq_add (by
  have := setOf_lt p k
  exact Nat.testBit_lt_two_pow this)
theorem setOf_test (p : Nat → Bool) (k i : Nat) : (setOf p k).testBit i = (decide (i < k) && p i) := by
  induction k with
  | zero => simp [setOf]
  | succ k ih =>
    rw [setOf]
    have h0 : (setOf p k).testBit k = false := Nat.testBit_lt_two_pow (setOf_lt p k)
    have e : decide (i < k + 1) = (decide (i < k) || decide (k = i)) := by rw [Bool.eq_iff_iff]; simp; omega
    cases hp : p k
    · simp only [Bool.false_eq_true, if_false, Nat.add_zero]
      rw [ih, e]
      by_cases hk : k = i
      · subst hk; simp [hp]
      · simp [hk]
    · simp only [if_true]
      rw [add_test h0, ih, e]
      by_cases hk : k = i
      · subst hk; simp [hp]
      · simp [hk]
end
section
open Go Go.RowKit

theorem enters59 (args : Array Value) (W : World) : (callFunc 65 args).run Tryd.prog W = .ok (.enter 65 args) W := by go_simp
theorem Other1_any (b6 B n s : Nat) (f : Nat → Bool) (w : World) (h8 : n ≤ 8) (hs : s < pw n) (hG : Blk w b6 96 #[.int .i64 (n : Nat), .slice (some ⟨B, 0, none⟩) (pw n) (pw n)]) (hB : Bools w B (pw n) f) :
    Calls Tryd.prog 65 #[.int .i64 (s : Nat), .pointer (some ⟨b6, 0, none⟩)] w (Ret (.bool (!(f (pw n - 1 - s)))) w) := by
  have hp8 : pw n ≤ 256 := by have := pw_mono h8; simpa [pw] using this
  have A := Lib.hid (fun W => all_any n B (pw n) W h8)
  have an := i64_andNot_nat (pw n - 1) s (by omega) (by omega)
  rw [dif_full hs] at an
  have x0 := cellX (hB (pw n - 1 - s) (by omega))
  have hti : ((pw n - 1 - s : Nat) : Int) < ((pw n : Nat) : Int) := by omega
  have g0 := cellX (hG.c 0 rfl)
  have g1 := cellX (hG.c 1 rfl)
  obtain ⟨t, ht⟩ : ∃ t, Hid (pw n - 1 - s = t) := ⟨_, Lib.hid rfl⟩
  rw [ht.out] at an x0 hti ⊢
  obtain ⟨M, hM⟩ : ∃ M, Hid (pw n - 1 = M) := ⟨_, Lib.hid rfl⟩
  rw [hM.out] at A an
  clear hs hG hB
  generalize pw n = N at *
  go_enter Tryd.func65, Tryd.ntmps65
  go_wp2
  refine wp_region_ext (by kernel_rfl) (by kernel_rfl) ?_
  repeat (go_big_quiet_step ((go_at_call 66; exact callE (A.out _))))
  refine wpQuiet_nil ?_
  rintro ⟨w1, hw1⟩
  dsimp only
  clear x0 g0 g1
  go_wp2
  go_ret
  exact Ret.mk rfl hw1
/-- The sets whose other drovers lose. -/
def othF (f : Nat → Bool) (n s : Nat) : Bool := !(f (pw n - 1 - s))
section
variable (a : Option Addr) (n c m : Nat) (R : List Int) (w : World)
theorem Other_no (x : Int) (h : Ints w a R) (hl : R.length = m) (hm : m ≤ 1000) (hmc : m ≤ c) (hR : ¬ RuleI x R) :
    Calls Tryd.prog 38 #[.int .i64 x, .slice a m c] w (Ret (errV (.slice none 0 0)) w) := by
  have K := Lib.hid (fun W hW => gor_no a m c x R W hW hl hm hmc hR)
  have h := Lib.hid h
  clear hl
  go_enter Tryd.func38, Tryd.ntmps38
  go_wp2_with (go_at_call 62; refine (K.out _ h.out).mono ?_; rintro e w1 ⟨rfl, hb1⟩)
  go_ret2
  exact Ret.mk rfl (nextB hb1 (b1 _ _))
theorem Other_yes (h : Ints w a R) (hl : R.length = m) (hm : m ≤ 1000) (hmc : m ≤ c) (hR : RuleP n R) :
    Calls Tryd.prog 38 #[.int .i64 (n : Nat), .slice a m c] w (GotI (lN (leastL (othF (hasOne R) n) (pw n))) w) := by
  have h8 : n ≤ 8 := by have := hR.2.1; omega
  have O1 := Lib.hid (fun b6 B s W (hs : s < pw n) (hG : Blk W b6 96 #[.int .i64 (n : Nat), .slice (some ⟨B, 0, none⟩) (pw n) (pw n)]) hB => Other1_any b6 B n s (hasOne R) W h8 hs hG hB)
  have NG := Lib.hid (fun b6 W H => newGame_any n 65 #[.pointer (some ⟨b6, 0, none⟩)] (othF (hasOne R) n) W hR.1 h8 enters59 H)
  have L := Lib.hid (fun B W hW => least_any n B (othF (hasOne R) n) W h8 hW)
  unfold GameR at NG
  have hO : Hid (∀ s, othF (hasOne R) n s = !(hasOne R (pw n - 1 - s))) := Lib.hid (fun _ => rfl)
  obtain ⟨N, hN⟩ : ∃ N, Hid (pw n = N) := ⟨_, Lib.hid rfl⟩
  have K := Lib.hid (fun W hW => gor_at a n c W m R hW hl hm hmc hR N hN.out)
  rw [hN.out] at O1 NG L hO ⊢
  generalize othF (hasOne R) n = g at *
  generalize hasOne R = f at *
  generalize lN (leastL g N) = X at *
  have h := Lib.hid h
  clear hl hR
  go_enter Tryd.func38, Tryd.ntmps38
  go_wp2_with (go_at_call 62; refine (K.out _ h.out).mono ?_; rintro e w1 ⟨B, rfl, hg, hBo, hb1⟩; replace hBo := Lib.hid (hBo.next (b1 w1 (.cells #[.int .i64 (n : Nat), .slice (some ⟨B, 0, none⟩) N N] 96))); have hG := Lib.hid (Blk.new w1 96 #[.int .i64 (n : Nat), .slice (some ⟨B, 0, none⟩) N N]); have HN := Lib.hid (NG.out w1.heap.size (w1.alloc (.cells #[.int .i64 (n : Nat), .slice (some ⟨B, 0, none⟩) N N] 96)) (fun W hW s hs => by rw [hO.out]; exact O1.out _ _ _ _ hs (hG.out.ext hW) (hBo.out.next hW))))
  go_wp2_with (first
    | (go_at_call 64; refine HN.out.mono ?_; rintro e w2 ⟨C, rfl, hgC, hBC, hb2⟩; replace hBC := Lib.hid (hBC.next (b1 w2 (.cells #[.int .i64 (n : Nat), .slice (some ⟨C, 0, none⟩) N N] 96))))
    | (go_at_call 67; refine (L.out _ _ hBC.out).mono ?_; rintro e w3 ⟨r, rc, rfl, hrc, hI, hb3⟩; replace hI := Lib.hid hI))
  go_ret2
  exact ⟨r, rc, rfl, hrc, hI.out, nextB hb1 (nextB (b1 _ _) (nextB hb2 (nextB (b1 _ _) hb3)))⟩
end
/-- The kinds. -/
def noneP (f : Nat → Bool) (N d : Nat) : Bool := cnt (turnB f d) N == 0
def everyP (f : Nat → Bool) (N d : Nat) : Bool := !(f (N - 1 - pw d))
def aloneP (f : Nat → Bool) (d : Nat) : Bool := f (pw d)
end
section
open Go Go.RowKit

theorem RulesTo.asc {n : Nat} {R : List Int} {k : Nat} (h : RulesTo n R k) : ∀ i, i < k → ∀ j, j < i → nth R j < nth R i := by
  intro i
  induction i with
  | zero => intro _ j hj; omega
  | succ i ih =>
    intro hi j hj
    have h1 := (h (i + 1) hi).2.2.1 (by omega)
    simp only [Nat.add_sub_cancel] at h1
    by_cases e : j = i
    · subst e; exact h1
    · have := ih (by omega) j (by omega); omega
theorem hasOne_take {R : List Int} {i x : Nat} (hi : i ≤ R.length) : hasOne (R.take i) x = true ↔ ∃ j, j < i ∧ inB (nth R j).toNat x = true := by
  rw [hasOne_iff]
  have e : ∀ j, j < i → nth (R.take i) j = nth R j := fun j hj => by simp [nth, hj]
  constructor
  · rintro ⟨j, hj, h⟩
    have hj' : j < i := by simp at hj; omega
    exact ⟨j, hj', by rwa [e j hj'] at h⟩
  · rintro ⟨j, hj, h⟩
    exact ⟨j, by simp; omega, by rwa [e j hj]⟩
set_option maxRecDepth 100000 in
set_option maxHeartbeats 8000000 in
theorem refIsRule_in (b off m c n : Nat) (R : List Int) (w : World) (hc : ∀ i, i < m → w.cell? ⟨b, off + i, none⟩ = some (.int .i64 (nth R i))) (hl : R.length = m) (hm0 : 0 < m) (hm : m ≤ 1000) (h1 : 1 ≤ n) (h5 : n ≤ 5) :
    Calls Tryd.prog 35 #[.int .i64 (n : Nat), .slice (some ⟨b, off, none⟩) m c] w (Ret (.bool (decide (RuleP n R))) w) := by
  have sh := wrap_shl (k := n) (by omega)
  have shi : IntKind.i64.wrap (((2 : Int) ^ n)) = ((pw n : Nat) : Int) := by rw [pw_int]; exact wrap_pw (by omega)
  have hp8 : pw n ≤ 256 := by have := pw_mono (show n ≤ 8 by omega); simpa [pw] using this
  have hp1 := pw_pos n
  have hP : Hid (RuleP n R ↔ RulesTo n R m) := Lib.hid ⟨fun h => by have := h.2.2.2; rwa [hl] at this, fun h => ⟨h1, h5, by omega, by rw [hl]; exact h⟩⟩
  have hok := Lib.hid (fun k => (show RuleOk n R k ↔ 1 ≤ nth R k ∧ nth R k < ((pw n : Nat) : Int) ∧ (0 < k → nth R (k - 1) < nth R k) ∧ hasOne (R.take k) (nth R k).toNat = false from Iff.rfl))
  have htk := Lib.hid (fun k x (hk : k < m) => hasOne_take (R := R) (i := k) (x := x) (by omega))
  replace hc := Lib.hid hc
  have hb : b < w.heap.size := block_lt_of_cell (hc.out 0 (by omega))
  replace hl := Lib.hid hl
  obtain ⟨N, hN⟩ : ∃ N, Hid (pw n = N) := ⟨_, Lib.hid rfl⟩
  rw [hN.out] at hp8 hp1 sh shi hok
  have d1 : decide ((n : Int) < 1) = false := decide_eq_false (by omega)
  have d2 : decide (5 < (n : Int)) = false := decide_eq_false (by omega)
  have d3 : decide (n < 1) = false := decide_eq_false (by omega)
  have d4 : decide (5 < n) = false := decide_eq_false (by omega)
  have d5 : ((m : Int) == 0) = false := by rw [beq_eq_false_iff_ne]; omega
  go_enter Tryd.func35, Tryd.ntmps35
  go_wp2
  clear d1 d2 d3 d4 d5
  go_loopw [5, 6] (fun i _ wr => ∃ k : Nat, k ≤ m ∧ i = .int .i64 k ∧ RulesTo n R k ∧ Below w.heap.size w wr) (fun i _ _ => m - (intOf i).toNat)
  case atStart => exact ⟨0, by omega, rfl, fun i hi => absurd hi (by omega), Below.refl _ _⟩
  case round =>
    obtain ⟨k, hk, rfl, hR, B0⟩ := hrel
    have hasc := Lib.hid hR.asc
    replace hR := Lib.hid hR
    by_cases hlt : k < m
    · have hki : (k : Int) < (m : Int) := by omega
      have x0 := cellX (cellB B0 (hc.out k hlt))
      have hokk := Lib.hid (hok.out k)
      have hno := Lib.hid (fun (h : ¬ RuleOk n R k) => (show decide (RuleP n R) = false from decide_eq_false (fun h2 => h ((hP.out.1 h2) k hlt))))
      obtain ⟨p, hp, hpc⟩ : ∃ p, Hid (0 < k → nth R (k - 1) = p) ∧ (0 < k → w.cell? ⟨b, off + (k - 1), none⟩ = some (.int .i64 p)) := ⟨_, Lib.hid (fun _ => rfl), fun h0 => hc.out (k - 1) (by omega)⟩
      obtain ⟨x, hx⟩ : ∃ x, Hid (nth R k = x) := ⟨_, Lib.hid rfl⟩
      rw [hx.out] at x0 hokk
      have endF := Lib.hid (fun (h : ¬ RuleOk n R k) (W : World) (hW : Below w.heap.size w W) => (Ret.mk (show Value.bool false = Value.bool (decide (RuleP n R)) by rw [hno.out h]) hW))
      cases g1 : decide (x < 1)
      · cases g2 : decide (((N : Nat) : Int) ≤ x)
        · have hx1 : 1 ≤ x := by have := of_decide_eq_false g1; omega
          have hx2 : x < N := by have := of_decide_eq_false g2; omega
          obtain ⟨y, rfl⟩ : ∃ y : Nat, x = y := ⟨x.toNat, by omega⟩
          simp only [Int.toNat_natCast] at hokk
          have g2' : decide (N ≤ y) = false := decide_eq_false (by omega)
          by_cases hk0 : 0 < k
          · have p0 := cellX (cellB B0 (hpc hk0))
            have p1 := Lib.hid (hp.out hk0)
            have hk1 : decide (0 < (k : Int)) = true := decide_eq_true (by omega)
            have hk1' : decide (0 < k) = true := decide_eq_true hk0
            have hkm : ((k - 1 : Nat) : Int) < (m : Int) := by omega
            have wk : IntKind.i64.wrap ((k : Int) - 1) = ((k - 1 : Nat) : Int) := by rw [IntWalk.i64_in _ (by omega)]; omega
            clear hpc
            cases g3 : decide ((y : Int) ≤ p)
            · have hpy : p < (y : Int) := by have := of_decide_eq_false g3; omega
              go_wp2
              refine wp_region_ext (by kernel_rfl) (by kernel_rfl) ?_
              repeat (go_big_quiet_step (fail))
              refine wpQuiet_nil ?_
              rintro ⟨w1, hw1⟩
              dsimp only
              have hyes := Lib.hid (fun (h : hasOne (R.take k) y = false) => (show RulesTo n R (k + 1) from hR.out.succ (hokk.out.2 ⟨hx1, hx2, fun _ => by rw [p1.out]; exact hpy, h⟩)))
              replace B0 := nextB B0 hw1
              clear hw1 x0 p0
              have hbig := Lib.hid (fun j (hj : j < k) => (show 1 ≤ nth R j ∧ nth R j < (y : Int) from ⟨(hR.out j hj).1, by
                by_cases e : j = k - 1
                · subst e; rw [p1.out]; exact hpy
                · have h1 := hasc.out (k - 1) (by omega) j (by omega)
                  rw [p1.out] at h1
                  omega⟩))
              have htk2 := Lib.hid (htk.out k y hlt)
              go_wp2
              generalize w1 = wq at *
              go_loopw [6] (fun i wr => ∃ j : Nat, j ≤ k ∧ i = .int .i64 j ∧ (∀ t, t < j → inB (nth R t).toNat y = false) ∧ Below w.heap.size w wr) (fun i _ => k - (intOf i).toNat)
              case atStart => exact ⟨0, by omega, rfl, fun i hi => absurd hi (by omega), B0⟩
              case round =>
                clear B0
                obtain ⟨j, hj, rfl, hno2, B0⟩ := hrel
                replace hno2 := Lib.hid hno2
                by_cases hjl : j < k
                · have hjk : decide (j < k) = true := decide_eq_true hjl
                  have hjm : (j : Int) < (m : Int) := by omega
                  have x1 := cellX (cellB B0 (hc.out k hlt))
                  rw [hx.out] at x1
                  have z0 := cellX (cellB B0 (hc.out j (by omega)))
                  obtain ⟨e1, e2⟩ := hbig.out j hjl
                  have hz2 := Lib.hid (fun (h : inB (nth R j).toNat y = true) => htk2.out.2 ⟨j, hjl, h⟩)
                  have hstep := Lib.hid (fun (h : inB (nth R j).toNat y = false) => (show ∀ t, t < j + 1 → inB (nth R t).toNat y = false from lt_succ_all hno2.out h))
                  obtain ⟨z, hz⟩ : ∃ z : Nat, nth R j = z := ⟨(nth R j).toNat, by omega⟩
                  rw [hz] at z0 e1 e2 hz2 hstep
                  simp only [Int.toNat_natCast] at hz2 hstep
                  clear hz
                  have a1 := i64_andNot_nat z y (by omega) (by omega)
                  have a2 := i64_andNot_nat y z (by omega) (by omega)
                  have b1 := beq_nat (dif z y) 0
                  have b2 := beq_nat (dif y z) 0
                  have c2 : (dif y z == 0) = false := by
                    rw [beq_eq_false_iff_ne]
                    intro h
                    have := inB_le (dif_zero.1 h)
                    omega
                  rw [c2] at b2
                  replace b1 : (((dif z y : Nat) : Int) == 0) = (dif z y == 0) := b1
                  replace b2 : (((dif y z : Nat) : Int) == 0) = false := b2
                  have hdz := Lib.hid (show (dif z y == 0) = inB z y by rw [Bool.eq_iff_iff, beq_iff_eq]; exact dif_zero)
                  rw [hdz.out] at b1
                  clear c2
                  cases g5 : inB z y
                  · rw [g5] at b1
                    have hs := Lib.hid (hstep.out g5)
                    replace g5 := Lib.hid g5
                    go_wp2
                    refine wp_region_ext (by kernel_rfl) (by kernel_rfl) ?_
                    repeat (go_big_quiet_step (fail))
                    refine wpQuiet_nil ?_
                    rintro ⟨w3, hw3⟩
                    dsimp only
                    clear x1 z0
                    go_wp2
                    go_roundw
                    case rel => exact ⟨j + 1, by omega, by go_num, hs.out, nextB B0 hw3⟩
                    case measure => simp [intOf]; omega
                  · rw [g5] at b1
                    have hf := Lib.hid (hz2.out g5)
                    replace g5 := Lib.hid g5
                    go_wp2
                    refine wp_region_ext (by kernel_rfl) (by kernel_rfl) ?_
                    repeat (go_big_quiet_step (fail))
                    refine wpQuiet_nil ?_
                    rintro ⟨w3, hw3⟩
                    dsimp only
                    clear x1 z0
                    go_wp2
                    go_ret
                    exact endF.out (fun h => by have := (hokk.out.1 h).2.2.2; rw [hf.out] at this; cases this) _ (nextB B0 hw3)
                · obtain rfl : j = k := by omega
                  have hs := Lib.hid (hyes.out (by
                    cases hh : hasOne (R.take j) y
                    · rfl
                    · obtain ⟨t, ht, hin⟩ := htk2.out.1 hh
                      rw [hno2.out t ht] at hin
                      cases hin))
                  go_wp2
                  go_roundw
                  case rel => exact ⟨j + 1, by omega, by go_num, hs.out, B0⟩
                  case measure => simp [intOf]; omega
            · have hpy : (y : Int) ≤ p := of_decide_eq_true g3
              go_wp2
              refine wp_region_ext (by kernel_rfl) (by kernel_rfl) ?_
              repeat (go_big_quiet_step (fail))
              refine wpQuiet_nil ?_
              rintro ⟨w1, hw1⟩
              dsimp only
              go_wp2
              go_ret
              exact endF.out (fun h => by have := (hokk.out.1 h).2.2.1 hk0; rw [p1.out] at this; omega) _ (nextB B0 hw1)
          · have hk1 : k = 0 := by omega
            subst hk1
            clear hpc
            rw [Nat.add_zero] at x0
            have hok0 := Lib.hid (hR.out.succ (hokk.out.2 ⟨hx1, hx2, fun h => absurd h hk0, by simp [hasOne]⟩))
            have hm1 : (0 : Int) < (m : Int) := by omega
            go_wp2
            refine wp_region_ext (by kernel_rfl) (by kernel_rfl) ?_
            repeat (go_big_quiet_step (fail))
            refine wpQuiet_nil ?_
            rintro ⟨w1, hw1⟩
            dsimp only
            clear x0
            go_wp2
            go_loopw [6] (fun i wr => i = .int .i64 0 ∧ Below w.heap.size w wr) (fun i _ => 0)
            case atStart => exact ⟨rfl, nextB B0 hw1⟩
            case round =>
              obtain ⟨rfl, B1⟩ := hrel
              go_wp2
              go_roundw
              case rel => exact ⟨1, by omega, by go_num, hok0.out, B1⟩
              case measure => simp [intOf]; omega
        · have hbx : (N : Int) ≤ x := of_decide_eq_true g2
          clear hpc
          go_wp2
          refine wp_region_ext (by kernel_rfl) (by kernel_rfl) ?_
          repeat (go_big_quiet_step (fail))
          refine wpQuiet_nil ?_
          rintro ⟨w1, hw1⟩
          dsimp only
          go_wp2
          go_ret
          exact endF.out (fun h => by have := (hokk.out.1 h).2.1; omega) _ (nextB B0 hw1)
      · have hbx : x < 1 := of_decide_eq_true g1
        clear hpc
        go_wp2
        refine wp_region_ext (by kernel_rfl) (by kernel_rfl) ?_
        repeat (go_big_quiet_step (fail))
        refine wpQuiet_nil ?_
        rintro ⟨w1, hw1⟩
        dsimp only
        go_wp2
        go_ret
        exact endF.out (fun h => by have := (hokk.out.1 h).1; omega) _ (nextB B0 hw1)
    · obtain rfl : k = m := by omega
      go_wp2
      go_ret
      exact Ret.mk (show Value.bool true = _ by rw [decide_eq_true (hP.out.2 hR.out)]) B0
end
section
open Go Go.RowKit

theorem refIsRule_out (x : Int) (a : Option Addr) (m c : Nat) (w : World) (h : x < 1 ∨ 5 < x ∨ m = 0) : Calls Tryd.prog 35 #[.int .i64 x, .slice a m c] w (Only (.bool false) w) := by
  by_cases h1 : x < 1
  · clear h
    go_enter Tryd.func35, Tryd.ntmps35
    go_wp2
    go_ret
    exact Only.mk rfl
  · by_cases h5 : 5 < x
    · clear h
      go_enter Tryd.func35, Tryd.ntmps35
      go_wp2
      go_ret
      exact Only.mk rfl
    · have hm : m = 0 := by omega
      subst hm
      clear h
      go_enter Tryd.func35, Tryd.ntmps35
      go_wp2
      go_ret
      exact Only.mk rfl
theorem refIsRule_any (x : Int) (a : Option Addr) (m c : Nat) (R : List Int) (w : World) (h : Ints w a R) (hl : R.length = m) (hm : m ≤ 1000) :
    Calls Tryd.prog 35 #[.int .i64 x, .slice a m c] w (Ret (.bool (decide (RuleI x R))) w) := by
  by_cases ho : x < 1 ∨ 5 < x ∨ m = 0
  · rw [decide_eq_false (show ¬ RuleI x R from fun h => by
      obtain ⟨h1, h2, h3, h4, _⟩ := h
      omega)]
    exact (refIsRule_out x a m c w ho).mono fun _ _ k => k.ret
  · obtain ⟨n, rfl⟩ : ∃ n : Nat, x = n := ⟨x.toNat, by omega⟩
    obtain ⟨b, off, rfl, hc⟩ := ints_at h (by omega)
    have e : decide (RuleI (n : Int) R) = decide (RuleP n R) := by
      rw [decide_eq_decide]
      exact ⟨fun h => by simpa using h.2, fun h => ⟨by omega, by simpa using h⟩⟩
    rw [e]
    exact refIsRule_in b off m c n R w (fun i hi => hc i (by omega)) hl (by omega) hm (by omega) (by omega)
end
section
open Go Go.RowKit

theorem sorted_ext {l k : List Nat} (h1 : l.Pairwise (· < ·)) (h2 : k.Pairwise (· < ·)) (h : ∀ x, x ∈ l ↔ x ∈ k) : l = k := by
  induction l generalizing k with
  | nil =>
    cases k with
    | nil => rfl
    | cons b k => exact absurd ((h b).2 (by simp)) (by simp)
  | cons a l ih =>
    cases k with
    | nil => exact absurd ((h a).1 (by simp)) (by simp)
    | cons b k =>
      rw [List.pairwise_cons] at h1 h2
      have hab : a = b := by
        have e1 := (h a).1 (by simp)
        have e2 := (h b).2 (by simp)
        rw [List.mem_cons] at e1 e2
        rcases e1 with e1 | e1
        · exact e1
        · rcases e2 with e2 | e2
          · exact e2.symm
          · have := h1.1 b e2; have := h2.1 a e1; omega
      subst hab
      congr 1
      refine ih h1.2 h2.2 fun x => ⟨fun hx => ?_, fun hx => ?_⟩
      · have := (h x).1 (by simp [hx])
        rw [List.mem_cons] at this
        rcases this with e | e
        · subst e; have := h1.1 x hx; omega
        · exact e
      · have := (h x).2 (by simp [hx])
        rw [List.mem_cons] at this
        rcases this with e | e
        · subst e; have := h2.1 x hx; omega
        · exact e
theorem range_sorted (n : Nat) : (List.range n).Pairwise (· < ·) := List.pairwise_lt_range
theorem leastL_sorted {n : Nat} {f : Nat → Bool} (g : Game n f) : (leastL f (pw n)).Pairwise (· < ·) := by
  rw [leastL_filter g _ (Nat.le_refl _)]
  exact (range_sorted _).filter _
theorem leastL_mem_iff {n : Nat} {f : Nat → Bool} (g : Game n f) (s : Nat) : s ∈ leastL f (pw n) ↔ s < pw n ∧ isLeast n f s = true := by
  rw [leastL_filter g _ (Nat.le_refl _), List.mem_filter, List.mem_range]
theorem leastL_congr {f g : Nat → Bool} {k : Nat} (h : ∀ s, s < k → f s = g s) : leastL f k = leastL g k := by
  induction k with
  | zero => rfl
  | succ k ih => rw [leastL, leastL, ih (fun s hs => h s (by omega)), h k (by omega)]
/-- A set wins if it contains a least winning set. -/
theorem hasOne_least {n : Nat} {f : Nat → Bool} (g : Game n f) {s : Nat} (hs : s < pw n) : hasOne (lN (leastL f (pw n))) s = f s := by
  rw [hasOne_lN, Bool.eq_iff_iff, List.any_eq_true]
  constructor
  · rintro ⟨o, ho, hin⟩
    obtain ⟨h1, h2⟩ := (leastL_mem_iff g o).1 ho
    exact g.mono o s h1 hs hin (isLeast_iff.1 h2).1
  · intro hf
    obtain ⟨o, h1, h2, h3⟩ := least_in (n := n) s hs hf
    exact ⟨o, (leastL_mem_iff g o).2 ⟨by omega, h3⟩, h2⟩
theorem least_ne_sub {n : Nat} {f : Nat → Bool} (g : Game n f) {o s : Nat} (ho : f o = true) (hs : s < pw n) (hl : isLeast n f s = true) (hin : inB o s = true) : o = s := by
  apply Classical.byContradiction
  intro hne
  obtain ⟨i, hb, hd⟩ := inB_drop hin hne
  have hle := (sub_test hb).1
  have := g.mono o (s - pw i) (by have := inB_le hin; omega) (by omega) hd ho
  rw [(isLeast_iff.1 hl).2 i (test_lt hs hb) hb] at this
  cases this
theorem lN_nth {L : List Nat} {i : Nat} (h : i < L.length) : nth (lN L) i = ((L.getD i 0 : Nat) : Int) := by simp [nth, lN, h]
/-- The least winning sets of a game are a rule. -/
theorem rule_least {n : Nat} {f : Nat → Bool} (g : Game n f) (h1 : 1 ≤ n) (h5 : n ≤ 5) : RuleP n (lN (leastL f (pw n))) := by
  have hs := leastL_sorted g
  have hm := leastL_mem_iff g
  have hne : 0 < (leastL f (pw n)).length := by
    obtain ⟨o, e1, e2, e3⟩ := least_in (n := n) (pw n - 1) (by have := pw_pos n; omega) g.full
    exact List.length_pos_of_mem ((hm o).2 ⟨by have := pw_pos n; omega, e3⟩)
  refine ⟨h1, h5, by rw [lN_length]; exact hne, fun i hi => ?_⟩
  rw [lN_length] at hi
  generalize hL : leastL f (pw n) = L at *
  have hget : ∀ j, j < L.length → L.getD j 0 ∈ L := fun j hj => by
    rw [List.getD_eq_getElem?_getD, List.getElem?_eq_getElem hj]; exact List.getElem_mem hj
  obtain ⟨e1, e2⟩ := (hm _).1 (hget i hi)
  have e3 := (isLeast_iff.1 e2).1
  unfold RuleOk
  rw [lN_nth hi]
  refine ⟨?_, by omega, fun h0 => ?_, ?_⟩
  · cases hz : L.getD i 0 with
    | zero => rw [hz, g.zero] at e3; cases e3
    | succ k => omega
  · rw [lN_nth (show i - 1 < L.length by omega)]
    have := List.pairwise_iff_getElem.1 hs (i - 1) i (by omega) hi (by omega)
    simp only [List.getD_eq_getElem?_getD, List.getElem?_eq_getElem hi, List.getElem?_eq_getElem (show i - 1 < L.length by omega), Option.getD_some]
    omega
  · rw [Int.toNat_natCast]
    cases hh : hasOne ((lN L).take i) (L.getD i 0)
    · rfl
    · exfalso
      obtain ⟨j, hj, hin⟩ := (hasOne_take (by rw [lN_length]; omega)).1 hh
      rw [lN_nth (show j < L.length by omega), Int.toNat_natCast] at hin
      obtain ⟨k1, k2⟩ := (hm _).1 (hget j (by omega))
      have heq := least_ne_sub g (isLeast_iff.1 k2).1 e1 e2 hin
      have := List.pairwise_iff_getElem.1 hs j i (by omega) hi hj
      simp only [List.getD_eq_getElem?_getD, List.getElem?_eq_getElem hi, List.getElem?_eq_getElem (show j < L.length by omega), Option.getD_some] at heq
      omega
/-- A rule as sets. -/
theorem rule_sets {n : Nat} {R : List Int} (h : RuleP n R) : R = lN (R.map Int.toNat) := by
  apply ext_nth
  · simp [lN]
  · intro i hi
    rw [lN_nth (by simpa using hi)]
    have := (h.2.2.2 i hi).1
    simp [nth, hi] at this ⊢
    omega
/-- The least winning sets of a rule are the rule. -/
theorem least_rule {n : Nat} {R : List Int} (h : RuleP n R) : lN (leastL (hasOne R) (pw n)) = R := by
  have g := game_rule h
  rw [rule_sets h]
  congr 1
  rw [← rule_sets h]
  refine sorted_ext (leastL_sorted g) ?_ fun x => ?_
  · rw [List.pairwise_iff_getElem]
    intro i j hi hj hij
    simp only [List.length_map] at hi hj
    have h1 := h.2.2.2.asc j hj i hij
    have h2 := (h.2.2.2 i hi).1
    simp [nth, hi, hj] at h1 h2 ⊢
    omega
  · rw [leastL_mem_iff g, List.mem_map]
    constructor
    · rintro ⟨hx, hl⟩
      obtain ⟨i, hi, hin⟩ := hasOne_iff.1 (isLeast_iff.1 hl).1
      have hw : hasOne R (nth R i).toNat = true := hasOne_iff.2 ⟨i, hi, inB_refl _⟩
      exact ⟨nth R i, nth_mem hi, least_ne_sub g hw hx hl hin⟩
    · rintro ⟨y, hy, rfl⟩
      obtain ⟨i, hi, rfl⟩ := mem_nth hy
      obtain ⟨r1, r2, r3, r4⟩ := h.2.2.2 i hi
      refine ⟨by omega, isLeast_iff.2 ⟨hasOne_iff.2 ⟨i, hi, inB_refl _⟩, fun d _ hb => ?_⟩⟩
      cases hh : hasOne R ((nth R i).toNat - pw d)
      · rfl
      · exfalso
        obtain ⟨j, hj, hin⟩ := hasOne_iff.1 hh
        have hin2 := inB_trans hin (inB_sub hb)
        have hp := pw_pos d
        have hle := (sub_test hb).1
        have hle2 := inB_le hin
        rcases Nat.lt_trichotomy j i with e | e | e
        · have := (hasOne_take (R := R) (i := i) (x := (nth R i).toNat) (by omega)).2 ⟨j, e, hin2⟩
          rw [r4] at this
          cases this
        · subst e; omega
        · have h1 := h.2.2.2.asc j hj i e
          have h2 := (h.2.2.2 j hj).1
          omega
theorem inB_flip {a b n : Nat} (ha : a < pw n) (hb : b < pw n) (h : inB a b = true) : inB (pw n - 1 - b) (pw n - 1 - a) = true := by
  rw [← dif_full ha, ← dif_full hb]
  refine inB_iff.2 fun i hi => ?_
  rw [dif_test] at hi ⊢
  simp only [Bool.and_eq_true, Bool.not_eq_true'] at hi ⊢
  refine ⟨hi.1, ?_⟩
  cases hai : a.testBit i
  · rfl
  · have := inB_iff.1 h i hai
    rw [hi.2] at this
    cases this
/-- The other game. -/
theorem game_oth {n : Nat} {f : Nat → Bool} (g : Game n f) : Game n (othF f n) where
  zero := by unfold othF; rw [Nat.sub_zero, g.full]; rfl
  full := by unfold othF; rw [Nat.sub_self, g.zero]; rfl
  mono := fun a b ha hb hab hf => by
    unfold othF at *
    have hp := pw_pos n
    cases h : f (pw n - 1 - b)
    · rfl
    · have := g.mono _ (pw n - 1 - a) (by omega) (by omega) (inB_flip ha hb hab) h
      rw [this] at hf
      cases hf
theorem oth_oth {n : Nat} {f : Nat → Bool} {s : Nat} (hs : s < pw n) : othF (othF f n) n s = f s := by
  unfold othF
  rw [Bool.not_not, show pw n - 1 - (pw n - 1 - s) = s by omega]
end
end Go.Proofs.YtbdhceolchhnjaaDoor.Vo
