/- Layer 3: how an array of four numbers that came in is read. -/
import Derived.Test.YtnnndooagpkgmaaRz
namespace Go.Proofs.Ytnnndooagpkgmaa
open Go Go.ChangeShapes Go.WideShapes Go.ChangeAt Go.RowKit

theorem four_open {H : Type} {enc : TypeId × Value → H} {W : World} {r : Reach} {base : Nat} {v : Value} {d : DataW H} {ps : List MemPlace}
    (hval : Value.okWide Try.prog W r base 49 v) (hd : DataW.Trod enc Try.prog W 0 (fun _ => true) true 49 v d ps) :
    ∃ s0 s1 s2 s3, v = .agg #[.int .i64 s0, .int .i64 s1, .int .i64 s2, .int .i64 s3] := by
  obtain ⟨cs, rfl, hsz, _⟩ : ∃ cs, v = .agg cs ∧ cs.size = Try.prog.cellsOf 49 ∧ True := by
    unfold Value.okWide at hval
    rw [Try.underlying49] at hval
    obtain ⟨cs, h1, h2, _⟩ := hval
    exact ⟨cs, h1, h2, trivial⟩
  have h4 : Try.prog.cellsOf 49 = 4 := by kernel_rfl
  have h1 : Hid (Try.prog.cellsOf 3 = 1) := Lib.hid (by kernel_rfl)
  rw [h4] at hsz
  clear h4 hval
  obtain ⟨fuel, hf⟩ := hd
  obtain ⟨xs, m, _, _, _, hl, hall⟩ := DataW.trod_array Try.underlying49 hf
  obtain ⟨l, rfl⟩ : ∃ l, cs = ⟨l⟩ := ⟨cs.toList, rfl⟩
  obtain ⟨c0, c1, c2, c3, rfl⟩ : ∃ c0 c1 c2 c3, l = [c0, c1, c2, c3] := by
    simp only [List.size_toArray] at hsz
    clear hf hall hl h1
    rcases l with _ | ⟨c0, _ | ⟨c1, _ | ⟨c2, _ | ⟨c3, _ | ⟨c4, l⟩⟩⟩⟩⟩
    · simp at hsz
    · simp at hsz
    · simp at hsz
    · simp at hsz
    · exact ⟨c0, c1, c2, c3, rfl⟩
    · simp at hsz
  have key : ∀ i c, i < 4 → ([c0, c1, c2, c3].drop i).take 1 = [c] → ∃ s, c = .int .i64 s := by
    intro i c hi hc
    have h := hall i hi
    rw [h1.out, Nat.mul_one] at h
    have hx : ∃ x, xs[i]? = some x := ⟨xs[i]'(Nat.lt_of_lt_of_eq hi hl.symm), List.getElem?_eq_getElem _⟩
    obtain ⟨x, hx⟩ := hx
    rw [hx] at h
    obtain ⟨n, e, _⟩ := DataW.trod_int Try.underlying3 h
    have e' : ([c0, c1, c2, c3].drop i).take 1 = [.int .i64 n] := e
    rw [hc] at e'
    exact ⟨n, by simpa using e'⟩
  obtain ⟨s0, rfl⟩ := key 0 c0 (by omega) rfl
  obtain ⟨s1, rfl⟩ := key 1 c1 (by omega) rfl
  obtain ⟨s2, rfl⟩ := key 2 c2 (by omega) rfl
  obtain ⟨s3, rfl⟩ := key 3 c3 (by omega) rfl
  exact ⟨s0, s1, s2, s3, rfl⟩
end Go.Proofs.Ytnnndooagpkgmaa
