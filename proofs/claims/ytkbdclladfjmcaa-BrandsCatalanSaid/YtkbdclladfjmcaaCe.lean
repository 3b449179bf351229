/- Layer 2: Of, by the program; Count, by the program. Layer 2: Count, by the program and by the specification. Layer 2: Count, by the specification: a sum over the triangle at one side. Layer 2: sets of triangles as numbers; is a number in a list. Layer 2: choices, by the program. -/
import Derived.Test.YtkbdclladfjmcaaBy
import Derived.Laws.BitsAllLaws
import Derived.Lib.QuoteBits
namespace Go.Proofs.Ytkbdclladfjmcaa
section
open Go Go.RowKit

theorem RoundP.tame {xs : List Int} (h : RoundP xs) : Tame xs := h.2.2
/-- What Of returns: the lines, or that there are none. -/
def OfR (xs : List Int) (w : World) (e : Ending) (w' : World) : Prop :=
  Below w.heap.size w w' ∧ ((ofL xs = none ∧ e = .returned (.tuple #[.slice none 0 0, .int .i64 10])) ∨
    ∃ M a cap, ofL xs = some M ∧ e = .returned (.tuple #[.slice a M.length cap, .int .i64 0]) ∧ Prs w' a M ∧ M.length ≤ cap ∧ M.length ≤ 13)
theorem cutS_len : ∀ (f : Nat) (R C : List Int) (S : List (Int × Int)) (R' : List Int) (S' : List (Int × Int)), runE f R C S = some (R', S') → S'.length ≤ S.length + f := by
  intro f
  induction f with
  | zero => intro R C S R' S' h; cases h
  | succ f ih =>
    intro R C S R' S' h
    rw [runE] at h
    split at h
    · cases h; omega
    · split at h
      · cases h
      · have := ih _ _ _ _ _ h
        simp at this
        omega
set_option maxRecDepth 100000 in
set_option maxHeartbeats 1600000 in
theorem Of_no (a : Option Addr) (n c : Nat) (xs : List Int) (w : World) (h : Ints w a xs) (hn : xs.length = n) (hm : n ≤ 4611686018427387904) (hR : ¬ RoundP xs) :
    Calls Try.prog 10 #[.slice a n c] w (Only (.tuple #[.slice none 0 0, .int .i64 2]) w) := by
  have K := isRound_any a n c xs w h hn hm
  rw [decide_eq_false hR] at K
  replace K := Lib.hid K
  clear h hn hR
  go_enter Try.func10, Try.ntmps10
  go_wp2_with (go_at_call 18; refine K.out.mono ?_; rintro e w1 ⟨rfl, rfl⟩)
  go_ret2
  exact Only.mk rfl
set_option maxRecDepth 100000 in
set_option maxHeartbeats 1600000 in
theorem Of_yes (a : Option Addr) (n c : Nat) (xs : List Int) (w : World) (h : Ints w a xs) (hn : xs.length = n) (hR : RoundP xs) :
    Calls Try.prog 10 #[.slice a n c] w (OfR xs w) := by
  have h3 : 3 ≤ n := by rw [← hn]; exact hR.1
  have h12 : n ≤ 12 := by rw [← hn]; exact hR.2.1
  have K := isRound_any a n c xs w h hn (by omega)
  rw [decide_eq_true hR] at K
  replace K := Lib.hid K
  obtain ⟨b, off, rfl, hc⟩ := ints_at h (by omega)
  rw [hn] at hc
  have L := Lib.hid (linesOf_any b off n c xs w hn h3 h12 hR.tame hc)
  clear h hR hc hn
  go_enter Try.func10, Try.ntmps10
  go_wp2_with (go_at_call 18; refine K.out.mono ?_; rintro e w1 ⟨rfl, rfl⟩)
  refine L.out.mono ?_
  rintro e w1 ⟨B0, ⟨hr, rfl⟩ | ⟨R, S, a1, c1, hr, rfl, hown, hp, hc1⟩⟩
  · dsimp only
    replace hr := Lib.hid hr
    go_wp2
    go_ret2
    exact ⟨B0, .inl ⟨by unfold ofL; rw [hr.out], rfl⟩⟩
  · have hS := sortL_length S
    have hlS := cutS_len _ _ _ _ _ _ hr
    dsimp only
    replace hr := Lib.hid hr
    replace hS := Lib.hid hS
    replace hlS := Lib.hid hlS
    cases g : (maxL R == 1)
    · have g' := Lib.hid (show ¬ maxL R = 1 by simpa using g)
      go_wp2
      go_ret2
      exact ⟨B0, .inl ⟨by unfold ofL; rw [hr.out]; simp only []; rw [if_neg g'.out], rfl⟩⟩
    · have g' := Lib.hid (show maxL R = 1 by simpa using g)
      go_wp2
      go_ret2
      refine ⟨B0, .inr ⟨sortL S, a1, c1, by unfold ofL; rw [hr.out]; simp only []; rw [if_pos g'.out], by rw [hS.out]; rfl, hp, by rw [hS.out]; exact hc1, by rw [hS.out]; simpa using hlS.out⟩⟩
end
section
open Go Go.RowKit

/-- The Catalan numbers. -/
def catT (t : Nat) : Int := [0, 1, 2, 5, 14, 42, 132, 429, 1430, 4862, 16796].getD t 0
theorem Count_out (n : Int) (w : World) (h : n < 3 ∨ 12 < n) : Calls Try.prog 4 #[.int .i64 n] w (Only (.tuple #[.int .i64 0, .int .i64 2]) w) := by
  rcases h with h | h
  all_goals
    go_enter Try.func4, Try.ntmps4
    go_wp2
    go_ret2
    exact Only.mk rfl
set_option maxRecDepth 100000 in
set_option maxHeartbeats 1600000 in
theorem Count_in (n : Nat) (w : World) (h3 : 3 ≤ n) (h12 : n ≤ 12) : Calls Try.prog 4 #[.int .i64 n] w (Only (.tuple #[.int .i64 (catT (n - 2)), .int .i64 0]) w) := by
  go_enter Try.func4, Try.ntmps4
  go_wp2
  go_loop [4, 5] (fun c i => ∃ t : Nat, 1 ≤ t ∧ t ≤ n - 2 ∧ i = .int .i64 (t + 1 : Nat) ∧ c = .int .i64 (catT t)) (fun _ i => n - (intOf i).toNat)
  case atStart => exact ⟨1, by omega, by omega, rfl, rfl⟩
  case round =>
    obtain ⟨t, ht1, ht, rfl, rfl⟩ := hrel
    by_cases hlt : t < n - 2
    · have hc : ∃ u : Int, catT t = u ∧ 0 ≤ u ∧ u ≤ 16796 ∧ u * (4 * ((t : Int) + 1) - 2) / ((t : Int) + 2) = catT (t + 1) ∧ 0 ≤ u * (4 * ((t : Int) + 1) - 2) ∧ u * (4 * ((t : Int) + 1) - 2) ≤ 1000000 := by
        have : t = 1 ∨ t = 2 ∨ t = 3 ∨ t = 4 ∨ t = 5 ∨ t = 6 ∨ t = 7 ∨ t = 8 ∨ t = 9 := by omega
        rcases this with rfl | rfl | rfl | rfl | rfl | rfl | rfl | rfl | rfl <;> exact ⟨_, rfl, by decide⟩
      obtain ⟨u, e, u0, u1, e2, u2, u3⟩ := hc
      rw [e]
      replace e2 := Lib.hid e2
      clear e
      have hi0 : (t : Int) + 1 ≤ (n : Int) - 2 := by omega
      go_wp2
      go_round
      case rel => exact ⟨t + 1, by omega, by omega, by go_num, by rw [← e2.out]; rfl⟩
      case measure => simp [intOf]; omega
    · obtain rfl : t = n - 2 := by omega
      have hi0 : (n : Int) - 2 < ((n - 2 : Nat) : Int) + 1 := by omega
      go_wp2
      go_ret2
      exact Only.mk rfl
end
section
open Go Go.RowKit

def manyK (k : Nat) : Int := if k < 2 then 0 else if k = 2 then 1 else catT (k - 2)
def manyL (q : Nat) : List Int := (List.range q).map manyK
/-- The sum from 2 to below j. -/
def sumK (m : Nat) : Nat → Int
  | 0 => 0
  | j + 1 => sumK m j + if 2 ≤ j then manyK j * manyK (m + 1 - j) else 0
theorem manyL_nth (q i : Nat) (h : i < q) : nth (manyL q) i = manyK i := by simp [nth, manyL, h]
theorem manyL_length (q : Nat) : (manyL q).length = q := by simp [manyL]
theorem manyL_succ (q : Nat) : manyL (q + 1) = manyL q ++ [manyK q] := by simp [manyL, List.range_succ]
theorem manyK_bd : ∀ k, k ≤ 12 → 0 ≤ manyK k ∧ manyK k ≤ 16796 := by decide
theorem sumK_all : ∀ m, 4 ≤ m → m ≤ 12 → sumK m m = manyK m := by
  intro m h1 h2
  have : m = 4 ∨ m = 5 ∨ m = 6 ∨ m = 7 ∨ m = 8 ∨ m = 9 ∨ m = 10 ∨ m = 11 ∨ m = 12 := by omega
  rcases this with rfl | rfl | rfl | rfl | rfl | rfl | rfl | rfl | rfl <;> decide
theorem sumK_bd : ∀ m, 4 ≤ m → m ≤ 12 → ∀ j, j ≤ m → 0 ≤ sumK m j ∧ sumK m j ≤ 16796 := by
  intro m h1 h2
  have : m = 4 ∨ m = 5 ∨ m = 6 ∨ m = 7 ∨ m = 8 ∨ m = 9 ∨ m = 10 ∨ m = 11 ∨ m = 12 := by omega
  rcases this with rfl | rfl | rfl | rfl | rfl | rfl | rfl | rfl | rfl <;> decide
theorem sumK_succ (m j : Nat) (h : 2 ≤ j) : sumK m (j + 1) = sumK m j + manyK j * manyK (m + 1 - j) := by rw [sumK, if_pos h]
end
section
open Go Go.RowKit

theorem i64_and_nat (a b : Nat) (ha : a < 9223372036854775808) (hb : b < 9223372036854775808) : bits .and .i64 (a : Int) (b : Int) = ((a &&& b : Nat) : Int) := by
  have hx : a &&& b < 2 ^ 63 := Nat.and_lt_two_pow _ (by omega)
  show IntKind.i64.wrap ((BitVec.ofInt 64 (a : Int) &&& BitVec.ofInt 64 (b : Int)).toNat : Int) = _
  rw [BitVec.toNat_and, ofInt_u64 a (by omega), ofInt_u64 b (by omega), IntKind.wrap_i64]
  omega
theorem i64_or_nat (a b : Nat) (ha : a < 9223372036854775808) (hb : b < 9223372036854775808) : bits .or .i64 (a : Int) (b : Int) = ((a ||| b : Nat) : Int) := by
  have hx : a ||| b < 2 ^ 63 := Nat.or_lt_two_pow (by omega) (by omega)
  show IntKind.i64.wrap ((BitVec.ofInt 64 (a : Int) ||| BitVec.ofInt 64 (b : Int)).toNat : Int) = _
  rw [BitVec.toNat_or, ofInt_u64 a (by omega), ofInt_u64 b (by omega), IntKind.wrap_i64]
  omega
/-- 2 to the power of i. -/
def pw (i : Nat) : Nat := 2 ^ i
theorem pw_le {i : Nat} (h : i < 40) : pw i < 1099511627776 := Nat.pow_lt_pow_of_lt (a := 2) (by omega) h
theorem pw_int (i : Nat) : (2 : Int) ^ i = ((pw i : Nat) : Int) := by rw [pw, Int.natCast_pow]; rfl
theorem wrap_pw {i : Nat} (h : i < 40) : IntKind.i64.wrap ((pw i : Nat) : Int) = ((pw i : Nat) : Int) := by
  have := pw_le h
  rw [IntKind.wrap_i64]
  omega
theorem run_shl_one (i : Nat) (h : i < 40) (w : World) : (binOp .shl 3 (.int .i64 1) (.int .i64 (i : Int))).run Try.prog w = .ok (.int .i64 (pw i : Nat)) w := by
  go_simp
  rw [pw_int, wrap_pw h]
/-- Has the triangle the corner? -/
def hasC (t : Tri) (c : Nat) : Prop := t.1 = c ∨ t.2.1 = c ∨ t.2.2 = c
instance (t : Tri) (c : Nat) : Decidable (hasC t c) := by unfold hasC; infer_instance
def sumTo (f : Nat → Int) : Nat → Int
  | 0 => 0
  | k + 1 => sumTo f k + f k
/-- Ways to choose different triangles for the corners; u tells which are taken. -/
def choF (T : List Tri) : List Nat → Nat → Int
  | [], _ => 1
  | c :: cs, u => sumTo (fun i => if u &&& pw i = 0 ∧ hasC (tth T i) c then choF T cs (u ||| pw i) else 0) T.length
theorem choF_bd (T : List Tri) (hT : T.length ≤ 20) : ∀ (cs : List Nat) (u : Nat), 0 ≤ choF T cs u ∧ choF T cs u ≤ 20 ^ cs.length := by
  intro cs
  induction cs with
  | nil => intro u; simp [choF]
  | cons c cs ih =>
    intro u
    have hp : (0 : Int) ≤ 20 ^ cs.length := Int.le_of_lt (Int.pow_pos (by decide))
    have key : ∀ k, 0 ≤ sumTo (fun i => if u &&& pw i = 0 ∧ hasC (tth T i) c then choF T cs (u ||| pw i) else 0) k ∧ sumTo (fun i => if u &&& pw i = 0 ∧ hasC (tth T i) c then choF T cs (u ||| pw i) else 0) k ≤ k * 20 ^ cs.length := by
      intro k
      induction k with
      | zero => simp [sumTo]
      | succ k ihk =>
        rw [sumTo, Int.natCast_add, Int.add_mul]
        have := ih (u ||| pw k)
        split <;> omega
    have h1 := key T.length
    refine ⟨h1.1, Int.le_trans h1.2 ?_⟩
    rw [List.length_cons, Int.pow_succ, Int.mul_comm]
    exact Int.mul_le_mul_of_nonneg_left (by omega) hp
theorem pow20 {k : Nat} (h : k ≤ 12) : (20 : Int) ^ k ≤ 4096000000000000 := by
  have : k = 0 ∨ k = 1 ∨ k = 2 ∨ k = 3 ∨ k = 4 ∨ k = 5 ∨ k = 6 ∨ k = 7 ∨ k = 8 ∨ k = 9 ∨ k = 10 ∨ k = 11 ∨ k = 12 := by omega
  rcases this with rfl | rfl | rfl | rfl | rfl | rfl | rfl | rfl | rfl | rfl | rfl | rfl | rfl <;> decide
theorem or_lt {u i : Nat} (hu : u < pw 20) (hi : i < 20) : u ||| pw i < pw 20 := Nat.or_lt_two_pow hu (Nat.pow_lt_pow_of_lt (a := 2) (by omega) hi)
set_option maxRecDepth 100000 in
set_option maxHeartbeats 800000 in
theorem indexI_any (b off n c : Nat) (xs : List Int) (q : Int) (w : World) (hn : xs.length = n) (hm : n ≤ 1000) (h : ∀ i, i < n → w.cell? ⟨b, off + i, none⟩ = some (.int .i64 (nth xs i))) :
    Calls Try.prog 45 #[.slice (some ⟨b, off, none⟩) n c, .int .i64 q] w fun e w' => ∃ r, e = .returned (.int .i64 r) ∧ (0 ≤ r ↔ q ∈ xs) ∧ w = w' := by
  replace h := Lib.hid h
  replace hn := Lib.hid hn
  go_enter Try.func45, Try.ntmps45
  go_wp2
  go_loop [5, 8] (fun v i => ∃ k : Nat, k ≤ n ∧ i = .int .i64 k ∧ (∀ j, j < k → nth xs j ≠ q)) (fun _ i => n - (intOf i).toNat)
  case atStart => exact ⟨0, by omega, rfl, fun j hj => absurd hj (by omega)⟩
  case round =>
    obtain ⟨k, hk, rfl, hno⟩ := hrel
    replace hno := Lib.hid hno
    by_cases hlt : k < n
    · have x0 := h.out k hlt
      have hi1 : (k : Int) < (n : Int) := by omega
      have hmem := Lib.hid (nth_mem (show k < xs.length by rw [hn.out]; exact hlt))
      cases g : (q == nth xs k)
      · have g' := Lib.hid (show ¬ q = nth xs k by simpa using g)
        go_wp2
        go_round
        case rel => exact ⟨k + 1, by omega, by go_num, fun j hj => (by
          by_cases hjk : j = k
          · subst hjk; exact fun e => g'.out e.symm
          · exact hno.out j (by omega))⟩
        case measure => simp [intOf]; omega
      · have g' := Lib.hid (show q = nth xs k by simpa using g)
        go_wp2
        go_ret
        exact ⟨_, rfl, ⟨fun _ => by rw [g'.out]; exact hmem.out, fun _ => by omega⟩, rfl⟩
    · go_wp2
      go_ret
      refine ⟨_, rfl, ⟨fun h => absurd h (by omega), fun hq => ?_⟩, rfl⟩
      obtain ⟨i, hi, e⟩ := mem_nth hq
      exact absurd e (hno.out i (by rw [hn.out] at hi; omega))
theorem containsI_any (b off n c : Nat) (xs : List Int) (q : Int) (w : World) (hn : xs.length = n) (hm : n ≤ 1000) (h : ∀ i, i < n → w.cell? ⟨b, off + i, none⟩ = some (.int .i64 (nth xs i))) :
    Calls Try.prog 36 #[.slice (some ⟨b, off, none⟩) n c, .int .i64 q] w (Only (.bool (decide (q ∈ xs))) w) := by
  have K := Lib.hid (indexI_any b off n c xs q w hn hm h)
  clear h hn
  go_enter Try.func36, Try.ntmps36
  go_wp2_with (go_at_call 45; refine K.out.mono ?_; rintro e w1 ⟨r, rfl, hr, rfl⟩; replace hr := Lib.hid hr)
  go_ret
  refine Only.mk ?_
  by_cases hq : q ∈ xs
  · have := hr.out.2 hq; simp [hq, this]
  · have : ¬ 0 ≤ r := fun h => hq (hr.out.1 h); simp [hq]; omega
end
section
open Go Go.RowKit

/-- Corners as numbers. -/
def lC (cs : List Nat) : List Int := cs.map Int.ofNat
theorem lC_length (cs : List Nat) : (lC cs).length = cs.length := by simp [lC]
theorem lC_zero (c : Nat) (cs : List Nat) : nth (lC (c :: cs)) 0 = c := rfl
theorem lC_succ (c : Nat) (cs : List Nat) (i : Nat) : nth (lC (c :: cs)) (i + 1) = nth (lC cs) i := by simp [lC, nth]
theorem choF_cons (T : List Tri) (c : Nat) (cs : List Nat) (u : Nat) : choF T (c :: cs) u = sumTo (fun i => if u &&& pw i = 0 ∧ hasC (tth T i) c then choF T cs (u ||| pw i) else 0) T.length := rfl
theorem sumTo_succ (f : Nat → Int) (k : Nat) : sumTo f (k + 1) = sumTo f k + f k := rfl
theorem mem_three (t : Tri) (c : Nat) : ((c : Nat) : Int) ∈ [(t.1 : Int), (t.2.1 : Int), (t.2.2 : Int)] ↔ hasC t c := by
  simp only [List.mem_cons, List.not_mem_nil, or_false, hasC]
  omega
theorem three_nth (x y z : Int) (W : World) (B : Nat) (t : TypeId) (h : Blk W B t #[.int .i64 x, .int .i64 y, .int .i64 z]) : ∀ i, i < 3 → W.cell? ⟨B, 0 + i, none⟩ = some (.int .i64 (nth [x, y, z] i)) := by
  intro i hi
  have : i = 0 ∨ i = 1 ∨ i = 2 := by omega
  rcases this with rfl | rfl | rfl
  · exact h.c 0 rfl
  · exact h.c 1 rfl
  · exact h.c 2 rfl
set_option maxRecDepth 100000 in
set_option maxHeartbeats 4000000 in
theorem choices_any (T : List Tri) (aT : Option Addr) (q capT : Nat) (hq : T.length = q) (hq20 : q ≤ 20) : ∀ (cs : List Nat) (aC : Option Addr) (n cC u : Nat) (w : World), cs.length = n → n ≤ 11 → u < pw 20 → n ≤ cC → Trs w aT T → Ints w aC (lC cs) →
    Calls Try.prog 22 #[.slice aC n cC, .slice aT q capT, .int .i64 u] w (Ret (.int .i64 (choF T cs u)) w) := by
  intro cs
  induction cs with
  | nil =>
    intro aC n cC u w hn _ _ _ _ _
    obtain rfl : n = 0 := by simpa using hn.symm
    clear hn
    go_enter Try.func22, Try.ntmps22
    go_wp2_with fail
    go_ret
    exact Ret.mk rfl (Below.refl _ _)
  | cons c cs ih =>
    intro aC n cC u w hn hn10 hu hcap hT hC
    obtain ⟨n', rfl⟩ : ∃ n', n = n' + 1 := ⟨n - 1, by simp at hn; omega⟩
    have hn' : cs.length = n' := by simpa using hn
    obtain ⟨b, off, rfl, hc⟩ := ints_at hC (by rw [lC_length, hn]; omega)
    rw [lC_length, hn] at hc
    have hc0 := hc 0 (by omega)
    rw [lC_zero, Nat.add_zero] at hc0
    have htail : Hid (∀ i, i < n' → w.cell? ⟨b, off + 1 + i, none⟩ = some (.int .i64 (nth (lC cs) i))) := Lib.hid (fun i hi => by
      have := hc (i + 1) (by omega)
      rw [lC_succ, show off + (i + 1) = off + 1 + i by omega] at this
      exact this)
    have hsum := Lib.hid (choF_cons T c cs u)
    have hbd := Lib.hid (fun k (hk : k ≤ q) => show 0 ≤ sumTo (fun i => if u &&& pw i = 0 ∧ hasC (tth T i) c then choF T cs (u ||| pw i) else 0) k ∧ sumTo (fun i => if u &&& pw i = 0 ∧ hasC (tth T i) c then choF T cs (u ||| pw i) else 0) k ≤ 20 * 4096000000000000 from by
      have hp := pow20 (k := cs.length) (by omega)
      have key : ∀ k, k ≤ q → 0 ≤ sumTo (fun i => if u &&& pw i = 0 ∧ hasC (tth T i) c then choF T cs (u ||| pw i) else 0) k ∧ sumTo (fun i => if u &&& pw i = 0 ∧ hasC (tth T i) c then choF T cs (u ||| pw i) else 0) k ≤ k * 4096000000000000 := by
        intro k
        induction k with
        | zero => intro _; simp [sumTo]
        | succ k ihk =>
          intro hk
          rw [sumTo_succ]
          have h1 := ihk (by omega)
          have h2 := choF_bd T (by omega) cs (u ||| pw k)
          split <;> omega
      have := key k hk
      omega)
    generalize hf : (fun i => if u &&& pw i = 0 ∧ hasC (tth T i) c then choF T cs (u ||| pw i) else 0) = f at *
    have hfk := Lib.hid (fun k => show f k = if u &&& pw k = 0 ∧ hasC (tth T k) c then choF T cs (u ||| pw k) else 0 by rw [← hf])
    replace ih := Lib.hid ih
    replace hT := Lib.hid hT
    replace hq := Lib.hid hq
    replace hn := Lib.hid hn
    replace hn' := Lib.hid hn'
    clear hf hC hc
    go_enter Try.func22, Try.ntmps22
    go_wp2_with fail
    go_loopw [7, 15] (fun s i wr => ∃ k : Nat, k ≤ q ∧ i = .int .i64 k ∧ s = .int .i64 (sumTo f k) ∧ Below w.heap.size w wr) (fun _ i _ => q - (intOf i).toNat)
    case atStart => exact ⟨0, by omega, rfl, rfl, Below.refl _ _⟩
    case round =>
      obtain ⟨k, hk, rfl, rfl, B0⟩ := hrel
      obtain ⟨s0, s1⟩ := hbd.out k hk
      by_cases hlt : k < q
      · have hTr := hT.out.next B0
        rcases hTr with hTr | ⟨bT, rfl, hct⟩
        · exact absurd hq.out (by omega)
        obtain ⟨c0, c1, c2⟩ := hct k (by rw [hq.out]; exact hlt)
        clear hct
        have hi1 : (k : Int) < (q : Int) := by omega
        go_wp2_with fail
        have X0 := Blk.new wr 50 #[.int .i64 (tth T k).1, .int .i64 (tth T k).2.1, .int .i64 (tth T k).2.2]
        have BW := b1 wr (.cells #[.int .i64 (tth T k).1, .int .i64 (tth T k).2.1, .int .i64 (tth T k).2.2] 50)
        have sh : wrap64 ((2 : Int) ^ k) = ((pw k : Nat) : Int) := by rw [pw_int]; exact IntWalk.wrap64_in _ ⟨by have := pw_le (show k < 40 by omega); omega, by have := pw_le (show k < 40 by omega); omega⟩
        have hpk := pw_le (show k < 40 by omega)
        have hu2 : u < 1099511627776 := by have := pw_le (show 20 < 40 by omega); omega
        have an := i64_and_nat u (pw k) (by omega) (by omega)
        have orr := i64_or_nat u (pw k) (by omega) (by omega)
        have hO := or_lt hu (show k < 20 by omega)
        have hs := Lib.hid (sumTo_succ f k)
        have hfk' := Lib.hid (hfk.out k)
        have hm3 := Lib.hid (mem_three (tth T k) c)
        have CI := Lib.hid (fun (x : Ext (wr.alloc (.cells #[.int .i64 (tth T k).1, .int .i64 (tth T k).2.1, .int .i64 (tth T k).2.2] 50))) => containsI_any wr.heap.size 0 3 3 [((tth T k).1 : Int), ((tth T k).2.1 : Int), ((tth T k).2.2 : Int)] c x.world rfl (by omega) (three_nth _ _ _ _ _ _ (X0.ext x.ok)))
        have hc1 := cellX (cellB BW (cellB B0 hc0))
        clear X0 c0 c1 c2
        have B0W := nextB B0 BW
        clear BW
        generalize (wr.alloc (.cells #[.int .i64 (tth T k).1, .int .i64 (tth T k).2.1, .int .i64 (tth T k).2.2] 50)) = W at *
        generalize wr.heap.size = zr at *
        generalize hA : u &&& pw k = A at *
        generalize hOO : u ||| pw k = O at *
        generalize pw k = P at *
        clear hA hOO
        cases g : ((A : Int) == 0)
        · have hA0 := Lib.hid (show ¬ A = 0 by simpa using g)
          refine wp_region_ext (by kernel_rfl) (by kernel_rfl) ?_
          repeat (go_big_quiet_step (fail))
          refine wpQuiet_nil ?_
          rintro ⟨w1, hw1⟩
          dsimp only
          replace B0 := nextB B0W hw1
          clear hc1 hw1 sh an orr B0W
          go_wp2_with fail
          go_roundw
          case rel => exact ⟨k + 1, by omega, by go_num, by rw [hs.out, hfk'.out, if_neg (fun h => hA0.out h.1), Int.add_zero], B0⟩
          case measure => simp [intOf]; omega
        · have hA0 := Lib.hid (show A = 0 by simpa using g)
          cases g2 : decide ((c : Int) ∈ [((tth T k).1 : Int), ((tth T k).2.1 : Int), ((tth T k).2.2 : Int)])
          all_goals rw [g2] at CI
          · have hno := Lib.hid (fun h => (of_decide_eq_false g2) (hm3.out.2 h))
            clear g2
            refine wp_region_ext (by kernel_rfl) (by kernel_rfl) ?_
            repeat (go_big_quiet_step ((go_at_call 36; exact onlyE (CI.out _))))
            refine wpQuiet_nil ?_
            rintro ⟨w1, hw1⟩
            dsimp only
            replace B0 := nextB B0W hw1
            clear hc1 hw1 sh an orr B0W
            go_wp2_with fail
            go_roundw
            case rel => exact ⟨k + 1, by omega, by go_num, by rw [hs.out, hfk'.out, if_neg (fun h => hno.out h.2), Int.add_zero], B0⟩
            case measure => simp [intOf]; omega
          · have hyes := Lib.hid (hm3.out.1 (of_decide_eq_true g2))
            clear g2
            refine wp_region_ext (by kernel_rfl) (by kernel_rfl) ?_
            repeat (go_big_quiet_step ((go_at_call 36; exact onlyE (CI.out _))))
            refine wpQuiet_nil ?_
            rintro ⟨w1, hw1⟩
            dsimp only
            replace B0 := nextB B0W hw1
            clear hc1 hw1 B0W
            go_wp2_with fail
            have hcb := choF_bd T (by rw [hq.out]; exact hq20) cs O
            have hp20 := pow20 (k := cs.length) (by rw [hn'.out]; omega)
            have v1 := hcb.1
            have v2 := Int.le_trans hcb.2 hp20
            clear hcb hp20
            by_cases hcc : cC = 1
            · have hn0 : n' = 0 := by omega
              have IH := Lib.hid (fun (x : Ext w1) => ih.out (some ⟨b, off, none⟩) 0 0 O x.world (by rw [hn'.out]; exact hn0) (by omega) hO (by omega) ((hT.out.next B0).next x.ok) (.inl (by rw [lC_length, hn'.out]; omega)))
              refine wp_region_ext (by kernel_rfl) (by kernel_rfl) ?_
              repeat (go_big_quiet_step ((go_at_call 22; exact callE (IH.out _))))
              refine wpQuiet_nil ?_
              rintro ⟨w2, hw2⟩
              dsimp only
              have B1 := nextB B0 hw2
              clear hw2 B0 sh an orr
              go_wp2_with fail
              go_roundw
              case rel => exact ⟨k + 1, by omega, by go_num, by rw [hs.out, hfk'.out, if_pos ⟨hA0.out, hyes.out⟩], B1⟩
              case measure => simp [intOf]; omega
            · skip
              have IH := Lib.hid (fun (x : Ext w1) => ih.out (some ⟨b, off + 1, none⟩) n' (cC - 1) O x.world hn'.out (by omega) hO (by omega) ((hT.out.next B0).next x.ok) (.inr ⟨b, off + 1, rfl, fun i hi => cellB x.ok (cellB B0 (htail.out i (by rw [lC_length, hn'.out] at hi; exact hi)))⟩))
              refine wp_region_ext (by kernel_rfl) (by kernel_rfl) ?_
              repeat (go_big_quiet_step ((go_at_call 22; exact callE (IH.out _))))
              refine wpQuiet_nil ?_
              rintro ⟨w2, hw2⟩
              dsimp only
              have B1 := nextB B0 hw2
              clear hw2 B0 sh an orr
              go_wp2_with fail
              go_roundw
              case rel => exact ⟨k + 1, by omega, by go_num, by rw [hs.out, hfk'.out, if_pos ⟨hA0.out, hyes.out⟩], B1⟩
              case measure => simp [intOf]; omega
      · obtain rfl : k = q := by omega
        go_wp2_with fail
        go_ret
        exact Ret.mk (by rw [hsum.out, hq.out]; rfl) B0
end
end Go.Proofs.Ytkbdclladfjmcaa
