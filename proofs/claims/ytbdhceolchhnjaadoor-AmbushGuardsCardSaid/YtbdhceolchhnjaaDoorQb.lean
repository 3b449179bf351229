/- Layer 4, the laws' own words: a position with a spot taken. -/
import Derived.Test.YtbdhceolchhnjaaDoorBa
import Derived.Laws.IdiomStrings
namespace Go.Proofs.YtbdhceolchhnjaaDoor
open Go Go.RowKit

theorem bytA_of {s : ByteArray} {i : Nat} (h : i < s.size) : bytA s i = (s.data.toList.getD i 0).toNat := by
  unfold bytA
  rw [dif_pos h]
  have h2 : i < s.data.size := h
  have h3 : i < s.data.toList.length := by simpa using h2
  rw [List.getD_eq_getElem?_getD, List.getElem?_eq_getElem h3, Option.getD_some]
  simp [ByteArray.getElem_eq_getElem_data]
theorem bytA_out {s : ByteArray} {i : Nat} (h : ¬ i < s.size) : bytA s i = 0 := by unfold bytA; rw [dif_neg h]
/-- The text with another byte at one place. -/
def setS (s : ByteArray) (k b : Nat) : ByteArray := ⟨(s.data.toList.set k (UInt8.ofNat b)).toArray⟩
theorem setS_size (s : ByteArray) (k b : Nat) : (setS s k b).size = s.size := by
  unfold setS
  show ((s.data.toList.set k (UInt8.ofNat b)).toArray).size = s.data.size
  simp
theorem setS_at (s : ByteArray) (k b i : Nat) (hb : b < 256) (hk : k < s.size) : bytA (setS s k b) i = if i = k then b else bytA s i := by
  by_cases hi : i < s.size
  · rw [bytA_of (by rw [setS_size]; exact hi), bytA_of hi]
    have h2 : i < s.data.size := hi
    unfold setS
    simp only [List.getD_eq_getElem?_getD, List.getElem?_set]
    have hl : i < s.data.toList.length := by simpa using h2
    by_cases e : k = i
    · subst e
      rw [if_pos rfl, if_pos hl, if_pos rfl, Option.getD_some]
      simp; omega
    · rw [if_neg e, if_neg (fun h => e h.symm)]
  · rw [bytA_out (by rw [setS_size]; exact hi), bytA_out hi, if_neg (by omega)]
/-- Block B holds the bytes l. -/
def BytB (w : World) (B : Nat) (l : List UInt8) : Prop := ∀ j (hj : j < l.length), w.cell? ⟨B, j, none⟩ = some (.int .u8 (l[j].toNat : Int))
theorem bytes_new (s : ByteArray) (w : World) : ∃ cap V, (convert 9 53 (.string s)).run Tryd.prog w = .ok (.slice (some ⟨w.heap.size, 0, none⟩) s.size cap) V ∧ Below w.heap.size w V ∧ w.heap.size < V.heap.size ∧
    BytB V w.heap.size s.data.toList ∧ ∀ j, j < s.size → V.frozen? ⟨w.heap.size, j, none⟩ = false := by
  refine ⟨_, _, run_bytes_of_string (P := Tryd.prog) w 9 53 5 s Tryd.underlying9 Tryd.underlying53 Tryd.underlying5, ?_, ?_, ?_, ?_⟩
  · exact ((Below.refl _ w).drew).alloc (Nat.le_refl _) _
  · have := (w.drew.alloc (.cells (bytesRow s (grownCap w s.size 0 5)) 5 ((bytesRow s (grownCap w s.size 0 5)).size, (bytesRow s (grownCap w s.size 0 5)).size + 1))).heap.size
    show w.heap.size < (w.heap.push _).size
    simp
  · intro j hj
    have hh : (w.drew.alloc (.cells (bytesRow s (grownCap w s.size 0 5)) 5 ((bytesRow s (grownCap w s.size 0 5)).size, (bytesRow s (grownCap w s.size 0 5)).size + 1))).heap[w.heap.size]? = some (.cells (bytesRow s (grownCap w s.size 0 5)) 5 ((bytesRow s (grownCap w s.size 0 5)).size, (bytesRow s (grownCap w s.size 0 5)).size + 1)) := by
      show (w.heap.push _)[w.heap.size]? = _
      simp
    have hd : j < s.data.size := by simpa using hj
    have hr : (bytesRow s (grownCap w s.size 0 5))[j]? = some (.int .u8 ((s.data.toList[j]).toNat : Int)) := by
      unfold bytesRow
      rw [Array.getElem?_append_left (by simpa using hd)]
      simp only [Array.getElem?_map, Array.getElem?_eq_getElem hd, Option.map_some, Array.getElem_toList]
    simp only [World.cell?, hh]
    simpa using hr
  · intro j hj
    have hh : (w.drew.alloc (.cells (bytesRow s (grownCap w s.size 0 5)) 5 ((bytesRow s (grownCap w s.size 0 5)).size, (bytesRow s (grownCap w s.size 0 5)).size + 1))).heap[w.heap.size]? = some (.cells (bytesRow s (grownCap w s.size 0 5)) 5 ((bytesRow s (grownCap w s.size 0 5)).size, (bytesRow s (grownCap w s.size 0 5)).size + 1)) := by
      show (w.heap.push _)[w.heap.size]? = _
      simp
    have hs : s.size ≤ (bytesRow s (grownCap w s.size 0 5)).size := by
      unfold bytesRow
      rw [Array.size_append, Array.size_map]
      have : s.data.size = s.size := rfl
      omega
    simp only [World.frozen?, hh]
    generalize (bytesRow s (grownCap w s.size 0 5)).size = z at *
    simp; omega
theorem bytes_back (l : List UInt8) (cap B : Nat) (w : World) (h : BytB w B l) : (convert 53 9 (.slice (some ⟨B, 0, none⟩) l.length cap)).run Tryd.prog w = .ok (.string ⟨l.toArray⟩) w :=
  run_convert_bytes_back w 53 9 5 ⟨B, 0, none⟩ cap l Tryd.underlying53 Tryd.underlying5 Tryd.underlying9 (fun j hj => by
    have := h j hj
    rw [show Addr.add ⟨B, 0, none⟩ j = ⟨B, j, none⟩ by first | (simp [Addr.add]; done) | (simp [Addr.add]; omega)]
    exact this)
theorem BytB.set {w : World} {B : Nat} {l : List UInt8} (h : BytB w B l) (hB : B < w.heap.size) {k : Nat} (hk : k < l.length) (b : Nat) (hb : b < 256) : BytB (w.setCell ⟨B, k, none⟩ (.int .u8 (b : Int))) B (l.set k (UInt8.ofNat b)) := by
  intro j hj
  rw [List.length_set] at hj
  rw [List.getElem_set]
  by_cases e : k = j
  · subst e
    rw [if_pos rfl]
    have := h k hk
    have hc : (w.setCell ⟨B, k, none⟩ (.int .u8 (b : Int))).cell? ⟨B, k, none⟩ = some (.int .u8 (b : Int)) := by
      first | (go_simp; done) | (simp [this]; done) | exact World.cell?_setCell_same this
    rw [hc]
    congr 3
    simp; omega
  · rw [if_neg e]
    have hc : (w.setCell ⟨B, k, none⟩ (.int .u8 (b : Int))).cell? ⟨B, j, none⟩ = w.cell? ⟨B, j, none⟩ := by
      first | (go_simp; done) | (simp [e, fun h => e (Eq.symm h)]; done)
    rw [hc]
    exact h j hj
set_option maxRecDepth 100000 in
set_option maxHeartbeats 2000000 in
theorem placed_any (s : ByteArray) (k b : Nat) (hk : k < s.size) (hb : b < 256) (w : World) :
    Calls Tryd.prog 33 #[.string s, .int .i64 (k : Nat), .int .u8 (b : Nat)] w (Ret (.string (setS s k b)) w) := by
  obtain ⟨cap, V, hcv, hbV, hVlt, hB, hfr⟩ := bytes_new s w
  have hkl : k < s.data.toList.length := by have : s.data.toList.length = s.size := by simp
                                            omega
  have x0 := hB k hkl
  have q0 := hfr k hk
  have hB2 := hB.set hVlt hkl b hb
  have hbk := bytes_back _ cap w.heap.size _ hB2
  have hsz : (s.data.toList.set k (UInt8.ofNat b)).length = s.size := by rw [List.length_set]; simp
  rw [hsz] at hbk
  have hbz := Lib.hid (hbV.setCell (p := ⟨w.heap.size, k, none⟩) (Nat.le_refl _) (.int .u8 (b : Int)))
  have hki : (k : Int) < (s.size : Int) := by omega
  have hfin : (⟨(s.data.toList.set k (UInt8.ofNat b)).toArray⟩ : ByteArray) = setS s k b := rfl
  rw [hfin] at hbk
  generalize setS s k b = s' at *
  clear hfr hB hB2 hbV hsz hfin
  go_enter Tryd.func33, Tryd.ntmps33
  go_wp2
  go_ret
  exact Ret.mk rfl hbz.out
end Go.Proofs.YtbdhceolchhnjaaDoor
