/- BreedMore: for every input. -/
import Derived.Test.YtmejahoodeeijaaDoorNd
namespace Go.Proofs.YtmejahoodeeijaaDoor
open Go Go.RowKit

theorem string_strV (b : ByteArray) : Value.string b = strV b.data.toList := by
  unfold strV
  cases b
  simp
theorem more_any (n : Int) (a : Option Addr) (l c : Nat) (L : List T3) (x : T3) (b : ByteArray) (w : World) (h : Trips w a L) (hl : L.length = l) (_ : l ≤ c) (hnil : a = none → c = 0) (hT : Tab w) :
    Calls Tryd.prog 4 #[.int .i64 n, .slice a l c, t3V x, .string b] w (Ret (.bool true) w) := by
  rw [string_strV]
  generalize b.data.toList = s
  cases he : moreEnds n L x s with
  | true => exact more_early n a l c L x s w h hl hT he
  | false =>
    unfold moreEnds at he
    simp only [Bool.or_eq_false_iff, decide_eq_false_iff_not, Bool.not_eq_false', decide_eq_true_eq, bne_eq_false_iff_eq] at he
    obtain ⟨⟨⟨⟨⟨h1, h2⟩, h3⟩, h4⟩, h5⟩, h6⟩ := he
    obtain ⟨m, rfl⟩ : ∃ m : Nat, n = (m : Int) := ⟨n.toNat, by omega⟩
    have hM : Mem m L := ⟨by omega, by omega, by
      unfold lisE at h5
      rw [if_neg (by omega)] at h5
      split at h5
      · rename_i h; exact List.all_eq_true.1 h
      · cases h5⟩
    exact more_late m a l c L x s w h hl hnil hT hM h6 (by omega) h2
end Go.Proofs.YtmejahoodeeijaaDoor
