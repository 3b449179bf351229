/- Layer 7, by the program: heaps compared, and as keys of a map. -/
import Derived.Test.YtdafpjapepfniaaWl
import Derived.Test.YtdafpjapepfniaaNc
import Derived.Maps.OwnOps
import Derived.Maps.OwnSet
import Derived.Maps.Views
import Derived.DeepKeys4
namespace Go.Proofs.Ytdafpjapepfniaa
open Go Go.RowKit

theorem eqA6 (fuel : Nat) (a b c d e f g h i j k l : Int) (w : World) : (Op.equalIn (fuel + 1 + 1) 58 (.agg #[.int .i64 a, .int .i64 b, .int .i64 c, .int .i64 d, .int .i64 e, .int .i64 f]) (.agg #[.int .i64 g, .int .i64 h, .int .i64 i, .int .i64 j, .int .i64 k, .int .i64 l])).run Try.prog w = .ok (a == g && b == h && c == i && d == j && e == k && f == l) w := by
  have u3 := Try.underlying3
  have a3 := Try.isAgg3
  have z3 := Try.sizeOf3
  rw [Op.equalIn]
  simp only [Sem.run_bind, run_underlying Try.underlying58, Result.andThen_ok]
  simp only [Std.Legacy.Range.forIn_eq_forIn_range', Std.Legacy.Range.size, Nat.sub_zero, Nat.add_sub_cancel, Nat.div_one, List.range'_succ, List.range'_zero, List.forIn_cons, List.forIn_nil]
  go_simp
  by_cases h1 : a = g
  · by_cases h2 : b = h
    · by_cases h3 : c = i
      · by_cases h4 : d = j
        · by_cases h5 : e = k
          · by_cases h6 : f = l <;> simp [h1, h2, h3, h4, h5, h6]
          · simp [h1, h2, h3, h4, h5]
        · simp [h1, h2, h3, h4]
      · simp [h1, h2, h3]
    · simp [h1, h2]
  · simp [h1]
theorem eqHp (x y : Hp) (w : World) : (Op.equalIn 10000 60 (hV x) (hV y)).run Try.prog w = .ok (decide (x = y)) w := by
  have u3 := Try.underlying3
  have a3 := Try.isAgg3
  have z3 := Try.sizeOf3
  have a58 := Try.isAgg58
  have z58 := Try.sizeOf58
  have hS : Try.prog.underlying 60 = some (.struct (Try.prog.fieldsOf 60)) := by kernel_rfl
  rw [show (10000 : Nat) = 9999 + 1 from rfl, run_equalIn_agg w 9999 60 _ _ hS (by kernel_rfl)]
  simp only [Program.fieldsOf, Try.underlying60]
  go_simp
  rw [show (9999 : Nat) = 9997 + 1 + 1 from rfl, eqA6, Result.andThen_ok]
  have e : decide (x = y) = ((x.s0 == y.s0 && x.s1 == y.s1 && x.s2 == y.s2 && x.s3 == y.s3 && x.s4 == y.s4 && x.s5 == y.s5) && x.lim == y.lim) := by
    rw [Bool.eq_iff_iff]
    cases x
    cases y
    simp [and_assoc]
  rw [e]
  generalize (x.s0 == y.s0 && x.s1 == y.s1 && x.s2 == y.s2 && x.s3 == y.s3 && x.s4 == y.s4 && x.s5 == y.s5) = c
  cases c
  · rfl
  · by_cases h : x.lim = y.lim <;> simp [h]
def eqH (x y : Hp) : Bool := decide (x = y)
@[go_sem high] theorem run_eqlHp (a b c d e f g a' b' c' d' e' f' g' : Int) (w : World) : (binOp .eql 60 (.agg #[.int .i64 a, .int .i64 b, .int .i64 c, .int .i64 d, .int .i64 e, .int .i64 f, .int .i64 g]) (.agg #[.int .i64 a', .int .i64 b', .int .i64 c', .int .i64 d', .int .i64 e', .int .i64 f', .int .i64 g'])).run Try.prog w = .ok (.bool (eqH ⟨a, b, c, d, e, f, g⟩ ⟨a', b', c', d', e', f', g'⟩)) w := by
  rw [run_eql_struct]
  have h := eqHp ⟨a, b, c, d, e, f, g⟩ ⟨a', b', c', d', e', f', g'⟩ w
  rw [h]; rfl

theorem laidP : laidOutB Try.prog = true := by kernel_rfl
theorem wideHp : (match Try.prog.underlying 60 with | some (.array _ _) | some (.struct _) => true | _ => false) = true := by rw [Try.underlying60]
theorem rowHp : (60 : TypeId) < Try.prog.types.size := of_decide_eq_true (by kernel_rfl)
theorem deepHp : Try.prog.keyTypeAt 3 60 = true := by kernel_rfl
set_option maxRecDepth 100000 in
theorem lawHp : Maps.Keyed Try.prog 60 := Maps.Keyed.of_law (deep_law_laid laidP (m := 3) (show 3 + 1 ≤ 10000 from of_decide_eq_true rfl) rowHp deepHp wideHp)
/-- A bar, as heaps. -/
abbrev barH (f : Nat → Nat) : Hp := ⟨(f 0 : Int), (f 1 : Int), (f 2 : Int), (f 3 : Int), (f 4 : Int), (f 5 : Int), 0⟩
/-- What a bar reads as, as a key. -/
def hk (f : Nat → Nat) : Lit := .string (keyBytes [.int .i64 (f 0 : Nat), .int .i64 (f 1 : Nat), .int .i64 (f 2 : Nat), .int .i64 (f 3 : Nat), .int .i64 (f 4 : Nat), .int .i64 (f 5 : Nat), .int .i64 0])
theorem wf_nat {i : Nat} (h : i ≤ 7) : (Lit.int .i64 (i : Int)).wf = true := WalkArith.wf_i64 (by omega)
set_option maxRecDepth 100000 in
theorem keyOf_hp {f : Nat → Nat} (h : IsB f) : keyOf Try.prog 60 (hV (barH f)) = some (hk f) := by
  have hkt : Try.prog.keyType 60 = true := by kernel_rfl
  have hcell : Try.prog.cellsOf 60 = 7 := by kernel_rfl
  obtain ⟨m, hm⟩ : ∃ m, Try.prog.types.size = m + 1 + 1 := ⟨Try.prog.types.size - 2, by kernel_rfl⟩
  have c1 : Try.prog.cellsOf 3 = 1 := by kernel_rfl
  have c2 : Try.prog.cellsOf 58 = 6 := by kernel_rfl
  have h0 := wf_nat (h.1 0)
  have h1 := wf_nat (h.1 1)
  have h2 := wf_nat (h.1 2)
  have h3 := wf_nat (h.1 3)
  have h4 := wf_nat (h.1 4)
  have h5 := wf_nat (h.1 5)
  have h6 : (Lit.int .i64 0).wf = true := WalkArith.wf_i64 (by omega)
  unfold keyOf
  simp only [Try.underlying60]
  rw [if_pos (by simp [hkt, Value.formed, Try.underlying60, hcell]), hm]
  unfold Program.keyLits
  simp only [Try.underlying60, Value.cells]
  rw [if_pos (by rw [hcell]; exact ⟨rfl, by simp⟩)]
  simp [Program.keyLits, Try.underlying3, Try.underlying58, c1, c2, h0, h1, h2, h3, h4, h5, h6, hk, show List.range 6 = [0, 1, 2, 3, 4, 5] from rfl]
end Go.Proofs.Ytdafpjapepfniaa
