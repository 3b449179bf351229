/- Layer 2: sets of triangles as numbers; is a number in a list. -/
import Derived.Test.YtflbaadfbjpakaaCc
import Derived.Laws.BitsAllLaws
import Derived.Lib.QuoteBits
namespace Go.Proofs.Ytflbaadfbjpakaa
open Go Go.RowKit

theorem i64_and_nat (a b : Nat) (ha : a < 9223372036854775808) (hb : b < 9223372036854775808) : bits .and .i64 (a : Int) (b : Int) = ((a &&& b : Nat) : Int) := by
  have hx : a &&& b < 2 ^ 63 := Nat.and_lt_two_pow _ (by omega)
  show IntKind.i64.wrap ((BitVec.ofInt 64 (a : Int) &&& BitVec.ofInt 64 (b : Int)).toNat : Int) = _
  rw [BitVec.toNat_and, ofInt_u64 a (by omega), ofInt_u64 b (by omega), IntKind.wrap_i64]
  omega
theorem i64_or_nat (a b : Nat) (ha : a < 9223372036854775808) (hb : b < 9223372036854775808) : bits .or .i64 (a : Int) (b : Int) = ((a ||| b : Nat) : Int) := by
  have hx : a ||| b < 2 ^ 63 := Nat.or_lt_two_pow (by omega) (by omega)
  show IntKind.i64.wrap ((BitVec.ofInt 64 (a : Int) ||| BitVec.ofInt 64 (b : Int)).toNat : Int) = _
  rw [BitVec.toNat_or, ofInt_u64 a (by omega), ofInt_u64 b (by omega), IntKind.wrap_i64]
  omega
/-- 2 to the power of i. -/
def pw (i : Nat) : Nat := 2 ^ i
theorem pw_le {i : Nat} (h : i < 40) : pw i < 1099511627776 := Nat.pow_lt_pow_of_lt (a := 2) (by omega) h
theorem pw_int (i : Nat) : (2 : Int) ^ i = ((pw i : Nat) : Int) := by rw [pw, Int.natCast_pow]; rfl
theorem wrap_pw {i : Nat} (h : i < 40) : IntKind.i64.wrap ((pw i : Nat) : Int) = ((pw i : Nat) : Int) := by
  have := pw_le h
  rw [IntKind.wrap_i64]
  omega
theorem run_shl_one (i : Nat) (h : i < 40) (w : World) : (binOp .shl 3 (.int .i64 1) (.int .i64 (i : Int))).run Try.prog w = .ok (.int .i64 (pw i : Nat)) w := by
  go_simp
  rw [pw_int, wrap_pw h]
/-- Has the triangle the corner? -/
def hasC (t : Tri) (c : Nat) : Prop := t.1 = c ∨ t.2.1 = c ∨ t.2.2 = c
instance (t : Tri) (c : Nat) : Decidable (hasC t c) := by unfold hasC; infer_instance
def sumTo (f : Nat → Int) : Nat → Int
  | 0 => 0
  | k + 1 => sumTo f k + f k
/-- Ways to choose different triangles for the corners; u tells which are taken. -/
def choF (T : List Tri) : List Nat → Nat → Int
  | [], _ => 1
  | c :: cs, u => sumTo (fun i => if u &&& pw i = 0 ∧ hasC (tth T i) c then choF T cs (u ||| pw i) else 0) T.length
theorem choF_bd (T : List Tri) (hT : T.length ≤ 20) : ∀ (cs : List Nat) (u : Nat), 0 ≤ choF T cs u ∧ choF T cs u ≤ 20 ^ cs.length := by
  intro cs
  induction cs with
  | nil => intro u; simp [choF]
  | cons c cs ih =>
    intro u
    have hp : (0 : Int) ≤ 20 ^ cs.length := Int.le_of_lt (Int.pow_pos (by decide))
    have key : ∀ k, 0 ≤ sumTo (fun i => if u &&& pw i = 0 ∧ hasC (tth T i) c then choF T cs (u ||| pw i) else 0) k ∧ sumTo (fun i => if u &&& pw i = 0 ∧ hasC (tth T i) c then choF T cs (u ||| pw i) else 0) k ≤ k * 20 ^ cs.length := by
      intro k
      induction k with
      | zero => simp [sumTo]
      | succ k ihk =>
        rw [sumTo, Int.natCast_add, Int.add_mul]
        have := ih (u ||| pw k)
        split <;> omega
    have h1 := key T.length
    refine ⟨h1.1, Int.le_trans h1.2 ?_⟩
    rw [List.length_cons, Int.pow_succ, Int.mul_comm]
    exact Int.mul_le_mul_of_nonneg_left (by omega) hp
theorem pow20 {k : Nat} (h : k ≤ 12) : (20 : Int) ^ k ≤ 4096000000000000 := by
  have : k = 0 ∨ k = 1 ∨ k = 2 ∨ k = 3 ∨ k = 4 ∨ k = 5 ∨ k = 6 ∨ k = 7 ∨ k = 8 ∨ k = 9 ∨ k = 10 ∨ k = 11 ∨ k = 12 := by omega
  rcases this with rfl | rfl | rfl | rfl | rfl | rfl | rfl | rfl | rfl | rfl | rfl | rfl | rfl <;> decide
theorem or_lt {u i : Nat} (hu : u < pw 20) (hi : i < 20) : u ||| pw i < pw 20 := Nat.or_lt_two_pow hu (Nat.pow_lt_pow_of_lt (a := 2) (by omega) hi)
set_option maxRecDepth 100000 in
set_option maxHeartbeats 800000 in
theorem indexI_any (b off n c : Nat) (xs : List Int) (q : Int) (w : World) (hn : xs.length = n) (hm : n ≤ 1000) (h : ∀ i, i < n → w.cell? ⟨b, off + i, none⟩ = some (.int .i64 (nth xs i))) :
    Calls Try.prog 89 #[.slice (some ⟨b, off, none⟩) n c, .int .i64 q] w fun e w' => ∃ r, e = .returned (.int .i64 r) ∧ (0 ≤ r ↔ q ∈ xs) ∧ w = w' := by
  replace h := Lib.hid h
  replace hn := Lib.hid hn
  go_enter Try.func89, Try.ntmps89
  go_wp2
  go_loop [5, 8] (fun v i => ∃ k : Nat, k ≤ n ∧ i = .int .i64 k ∧ (∀ j, j < k → nth xs j ≠ q)) (fun _ i => n - (intOf i).toNat)
  case atStart => exact ⟨0, by omega, rfl, fun j hj => absurd hj (by omega)⟩
  case round =>
    obtain ⟨k, hk, rfl, hno⟩ := hrel
    replace hno := Lib.hid hno
    by_cases hlt : k < n
    · have x0 := h.out k hlt
      have hi1 : (k : Int) < (n : Int) := by omega
      have hmem := Lib.hid (nth_mem (show k < xs.length by rw [hn.out]; exact hlt))
      cases g : (q == nth xs k)
      · have g' := Lib.hid (show ¬ q = nth xs k by simpa using g)
        go_wp2
        go_round
        case rel => exact ⟨k + 1, by omega, by go_num, fun j hj => (by
          by_cases hjk : j = k
          · subst hjk; exact fun e => g'.out e.symm
          · exact hno.out j (by omega))⟩
        case measure => simp [intOf]; omega
      · have g' := Lib.hid (show q = nth xs k by simpa using g)
        go_wp2
        go_ret
        exact ⟨_, rfl, ⟨fun _ => by rw [g'.out]; exact hmem.out, fun _ => by omega⟩, rfl⟩
    · go_wp2
      go_ret
      refine ⟨_, rfl, ⟨fun h => absurd h (by omega), fun hq => ?_⟩, rfl⟩
      obtain ⟨i, hi, e⟩ := mem_nth hq
      exact absurd e (hno.out i (by rw [hn.out] at hi; omega))
theorem containsI_any (b off n c : Nat) (xs : List Int) (q : Int) (w : World) (hn : xs.length = n) (hm : n ≤ 1000) (h : ∀ i, i < n → w.cell? ⟨b, off + i, none⟩ = some (.int .i64 (nth xs i))) :
    Calls Try.prog 80 #[.slice (some ⟨b, off, none⟩) n c, .int .i64 q] w (Only (.bool (decide (q ∈ xs))) w) := by
  have K := Lib.hid (indexI_any b off n c xs q w hn hm h)
  clear h hn
  go_enter Try.func80, Try.ntmps80
  go_wp2_with (go_at_call 89; refine K.out.mono ?_; rintro e w1 ⟨r, rfl, hr, rfl⟩; replace hr := Lib.hid hr)
  go_ret
  refine Only.mk ?_
  by_cases hq : q ∈ xs
  · have := hr.out.2 hq; simp [hq, this]
  · have : ¬ 0 ≤ r := fun h => hq (hr.out.1 h); simp [hq]; omega
end Go.Proofs.Ytflbaadfbjpakaa
