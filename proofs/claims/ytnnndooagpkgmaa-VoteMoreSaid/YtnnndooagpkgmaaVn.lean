/- Layer 3, by the program: trades. -/
import Derived.Test.YtnnndooagpkgmaaVm
namespace Go.Proofs.Ytnnndooagpkgmaa
open Go Go.RowKit

/-- Are four sets a trade? -/
def tradeB (f : Nat → Bool) (a b c d : Nat) : Bool := f a && f b && !(f c) && !(f d) && (a &&& b == c &&& d) && (a ||| b == c ||| d)
/-- The last set. -/
def lastOf (a b c : Nat) : Nat := a ^^^ b ^^^ c
/-- Do three sets begin a trade? -/
def tr3 (f : Nat → Bool) (a b c : Nat) : Bool := decide (c ≤ lastOf a b c) && tradeB f a b c (lastOf a b c)
def NoC (f : Nat → Bool) (a b : Nat) (N : Nat) : Prop := ∀ c, c < N → tr3 f a b c = false
def NoB (f : Nat → Bool) (N a M : Nat) : Prop := ∀ b, b < M → a ≤ b → NoC f a b N
def NoA (f : Nat → Bool) (N M : Nat) : Prop := ∀ a, a < M → NoB f N a N
instance (f : Nat → Bool) (a b N : Nat) : Decidable (NoC f a b N) := by unfold NoC; infer_instance
instance (f : Nat → Bool) (N a M : Nat) : Decidable (NoB f N a M) := by unfold NoB; infer_instance
instance (f : Nat → Bool) (N M : Nat) : Decidable (NoA f N M) := by unfold NoA; infer_instance
/-- The first trade. -/
def FirstT (f : Nat → Bool) (N a b c : Nat) : Prop := a < N ∧ a ≤ b ∧ b < N ∧ c < N ∧ tr3 f a b c = true ∧ NoA f N a ∧ NoB f N a b ∧ NoC f a b c
instance (f : Nat → Bool) (N a b c : Nat) : Decidable (FirstT f N a b c) := by unfold FirstT; infer_instance
theorem FirstT.unique {f : Nat → Bool} {N a b c a' b' c' : Nat} (h : FirstT f N a b c) (k : FirstT f N a' b' c') : a = a' ∧ b = b' ∧ c = c' := by
  obtain ⟨h1, h2, h3, h4, h5, h6, h7, h8⟩ := h
  obtain ⟨k1, k2, k3, k4, k5, k6, k7, k8⟩ := k
  have ha : a = a' := by
    rcases Nat.lt_trichotomy a a' with e | e | e
    · have := k6 a e b h3 h2 c h4; rw [h5] at this; cases this
    · exact e
    · have := h6 a' e b' k3 k2 c' k4; rw [k5] at this; cases this
  subst ha
  have hb : b = b' := by
    rcases Nat.lt_trichotomy b b' with e | e | e
    · have := k7 b e h2 c h4; rw [h5] at this; cases this
    · exact e
    · have := h7 b' e k2 c' k4; rw [k5] at this; cases this
  subst hb
  refine ⟨rfl, rfl, ?_⟩
  rcases Nat.lt_trichotomy c c' with e | e | e
  · have := k8 c e; rw [h5] at this; cases this
  · exact e
  · have := h8 c' e; rw [k5] at this; cases this
theorem FirstT.some {f : Nat → Bool} {N a b c : Nat} (h : FirstT f N a b c) : ¬ NoA f N N := fun hn => by
  obtain ⟨h1, h2, h3, h4, h5, _⟩ := h
  have := hn a h1 b h3 h2 c h4
  rw [h5] at this
  cases this
/-- The first trade, or none. -/
def TradeP (f : Nat → Bool) (N : Nat) : Option (Nat × Nat × Nat) → Prop
  | some (a, b, c) => FirstT f N a b c
  | none => NoA f N N
abbrev quadV (a b c d : Int) : Value := .agg #[.int .i64 a, .int .i64 b, .int .i64 c, .int .i64 d]
def trV : Option (Nat × Nat × Nat) → Value
  | some (a, b, c) => quadV (a : Nat) (b : Nat) (c : Nat) (lastOf a b c : Nat)
  | none => quadV 0 0 0 0
theorem lastOf_lt {a b c n : Nat} (ha : a < pw n) (hb : b < pw n) (hc : c < pw n) : lastOf a b c < pw n := Nat.xor_lt_two_pow (Nat.xor_lt_two_pow ha hb) hc
set_option maxRecDepth 100000 in
set_option maxHeartbeats 4000000 in
theorem isTrade_any (n B a b c d : Nat) (f : Nat → Bool) (w : World) (h8 : n ≤ 8) (ha : a < pw n) (hb : b < pw n) (hc : c < pw n) (hd : d < pw n) (hB : Bools w B (pw n) f) :
    Calls Try.prog 64 #[gV n B (pw n), quadV (a : Nat) (b : Nat) (c : Nat) (d : Nat)] w (Ret (.bool (tradeB f a b c d)) w) := by
  have hp8 : pw n ≤ 256 := by have := pw_mono h8; simpa [pw] using this
  have xa := hB a ha
  have xb := hB b hb
  have xc := hB c hc
  have xd := hB d hd
  have hBl : B < w.heap.size := block_lt_of_cell xa
  have hai : (a : Int) < ((pw n : Nat) : Int) := by omega
  have hbi : (b : Int) < ((pw n : Nat) : Int) := by omega
  have hci : (c : Int) < ((pw n : Nat) : Int) := by omega
  have hdi : (d : Int) < ((pw n : Nat) : Int) := by omega
  have an1 := i64_and_nat a b (by omega) (by omega)
  have an2 := i64_and_nat c d (by omega) (by omega)
  have or1 := i64_or_nat a b (by omega) (by omega)
  have or2 := i64_or_nat c d (by omega) (by omega)
  have e1 := beq_nat (a &&& b) (c &&& d)
  have e2 := beq_nat (a ||| b) (c ||| d)
  have hT : Hid (tradeB f a b c d = (f a && f b && !(f c) && !(f d) && (a &&& b == c &&& d) && (a ||| b == c ||| d))) := Lib.hid rfl
  rw [hT.out]
  clear hT hB ha hb hc hd
  generalize pw n = N at *
  have G : ∀ fa fb fc fd g1 g2 : Bool, f a = fa → f b = fb → f c = fc → f d = fd → (a &&& b == c &&& d) = g1 → (a ||| b == c ||| d) = g2 →
      Calls Try.prog 64 #[gV n B N, quadV (a : Nat) (b : Nat) (c : Nat) (d : Nat)] w (Ret (.bool (fa && fb && !fc && !fd && g1 && g2)) w) := by
    intro fa fb fc fd g1 g2 hfa hfb hfc hfd hg1 hg2
    rw [hfa] at xa
    rw [hfb] at xb
    rw [hfc] at xc
    rw [hfd] at xd
    rw [hg1] at e1
    rw [hg2] at e2
    clear hfa hfb hfc hfd hg1 hg2
    have X := Lib.hid (two_box w #[.int .i64 (n : Nat), .slice (some ⟨B, 0, none⟩) N N] #[.int .i64 (a : Nat), .int .i64 (b : Nat), .int .i64 (c : Nat), .int .i64 (d : Nat)] 60 49)
    have Y := Lib.hid ((Blk.new w 60 #[.int .i64 (n : Nat), .slice (some ⟨B, 0, none⟩) N N]).alloc (.cells #[.int .i64 (a : Nat), .int .i64 (b : Nat), .int .i64 (c : Nat), .int .i64 (d : Nat)] 49))
    have B0 := b2 w (.cells #[.int .i64 (n : Nat), .slice (some ⟨B, 0, none⟩) N N] 60) (.cells #[.int .i64 (a : Nat), .int .i64 (b : Nat), .int .i64 (c : Nat), .int .i64 (d : Nat)] 49)
    cases fa
    case' true => cases fb
    case' true.true => cases fc
    case' true.true.false => cases fd
    case' true.true.false.false => cases g1
    case' true.true.false.false.true => cases g2
    all_goals
      go_enter Try.func64, Try.ntmps64
      go_wp2
      have x0 := cellX (X.out.c 0 rfl)
      have x1 := cellX (X.out.c 1 rfl)
      have x2 := cellX (X.out.c 2 rfl)
      have x3 := cellX (X.out.c 3 rfl)
      have ya := cellB B0 xa
      have yb := cellB B0 xb
      have yc := cellB B0 xc
      have yd := cellB B0 xd
      have z1 := Y.out.c 1 rfl
      clear xa xb xc xd
      generalize ((w.alloc (.cells #[.int .i64 (n : Nat), .slice (some ⟨B, 0, none⟩) N N] 60)).alloc (.cells #[.int .i64 (a : Nat), .int .i64 (b : Nat), .int .i64 (c : Nat), .int .i64 (d : Nat)] 49)) = W at *
      refine wp_region_ext (by kernel_rfl) (by kernel_rfl) ?_
      repeat (go_big_quiet_step (fail))
      refine wpQuiet_nil ?_
      rintro ⟨w1, hw1⟩
      dsimp only
      clear x0 x1 x2 x3
      replace ya := cellB hw1 ya
      replace yb := cellB hw1 yb
      replace yc := cellB hw1 yc
      replace yd := cellB hw1 yd
      replace z1 := cellB hw1 z1
      replace B0 := nextB B0 hw1
      clear hw1 X Y
      go_wp2
      go_ret
      first | exact Ret.mk rfl B0 | exact Ret.mk (by simp) B0
  exact G _ _ _ _ _ _ rfl rfl rfl rfl rfl rfl
end Go.Proofs.Ytnnndooagpkgmaa
