/- BreedAho: for every input. -/
import Derived.Test.YtmejahoodeeijaaGreatDoorOb
namespace Go.Proofs.YtmejahoodeeijaaGreatDoor
open Go Go.RowKit

theorem str_strV (b : ByteArray) : Value.string b = strV b.data.toList := by
  unfold strV
  cases b
  simp
theorem aho_any (n : Int) (a : Option Addr) (l c : Nat) (L : List T3) (b : ByteArray) (w : World) (h : Trips w a L) (hl : L.length = l) (_ : l ≤ c) (_ : a = none → c = 0) (hT : Tab w) :
    Calls Tryz.prog 8 #[.int .i64 n, .slice a l c, .string b] w (Ret (.bool true) w) := by
  rw [str_strV]
  generalize b.data.toList = s
  cases hf : (decide (l ≤ 100) && decide (s.length ≤ 100)) with
  | false => exact aho_many n a l c s w hT hf
  | true =>
    cases ho : ahoOk n L with
    | false => exact aho_bad n a l c L s w h hl hT hf ho
    | true =>
      unfold ahoOk at ho
      simp only [Bool.and_eq_true, Bool.not_eq_true', decide_eq_false_iff_not, beq_iff_eq] at ho
      obtain ⟨⟨h3, h4⟩, h5⟩ := ho
      obtain ⟨m, rfl⟩ : ∃ m : Nat, n = (m : Int) := ⟨n.toNat, by omega⟩
      unfold lisE at h5
      split at h5
      · cases h5
      · rename_i h60
        split at h5
        · rename_i hx
          exact aho_late m a l c L s w h hl hT hf ⟨by omega, by omega, List.all_eq_true.1 hx⟩ (by omega)
        · cases h5
end Go.Proofs.YtmejahoodeeijaaGreatDoor
