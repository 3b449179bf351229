/- Layer 5: strings as lists of bytes: their first byte, and what comes after it. -/
import Derived.Test.YtfdaljekehkkaaaGreatDoorEf
import Derived.Lib.IndexBytes
namespace Go.Proofs.YtfdaljekehkkaaaGreatDoor
open Go Go.RowKit

theorem idx0 (c : UInt8) (l : List UInt8) (W : World) : (Instr.index 9 (strV (c :: l)) (.int .i64 0)).run Tryz.prog W = .ok (.int .u8 (c.toNat : Int)) W := by
  have h : (⟨(c :: l).toArray⟩ : ByteArray)[0]? = some c := by
    show (if h : 0 < (⟨(c :: l).toArray⟩ : ByteArray).size then some _ else none) = _
    rw [dif_pos (by show 0 < (c :: l).toArray.size; simp)]
    rfl
  unfold strV Instr.index
  simp [asIntOf, run_underlying Tryz.underlying9, h]
theorem sl1 (c : UInt8) (l : List UInt8) (W : World) : (Instr.sliceAt 9 (strV (c :: l)) (some (.int .i64 1)) none none).run Tryz.prog W = .ok (strV l) W := by
  have h : (⟨(c :: l).toArray⟩ : ByteArray).extract 1 (⟨(c :: l).toArray⟩ : ByteArray).size = ⟨l.toArray⟩ := by
    rw [Lib.extract_eq]
    have : (⟨(c :: l).toArray⟩ : ByteArray).size = l.length + 1 := by show (c :: l).toArray.size = _; simp
    rw [this]
    simp
  have hs : (⟨(c :: l).toArray⟩ : ByteArray).size = l.length + 1 := by show (c :: l).toArray.size = _; simp
  rw [hs] at h
  unfold strV Instr.sliceAt Instr.slice Instr.sliceBounds Instr.sliceBound
  simp [asIntOf, run_underlying Tryz.underlying9, hs, h]
  omega
theorem eqE_nil (W : World) : (binOp .eql 9 (strV []) (.string ⟨#[]⟩)).run Tryz.prog W = .ok (.bool true) W := by
  unfold strV; go_simp
theorem eqE_cons (c : UInt8) (l : List UInt8) (W : World) : (binOp .eql 9 (strV (c :: l)) (.string ⟨#[]⟩)).run Tryz.prog W = .ok (.bool false) W := by
  have h : ((⟨(c :: l).toArray⟩ : ByteArray) == ⟨#[]⟩) = false := rfl
  unfold strV
  go_simp
theorem neE_nil (W : World) : (binOp .neq 9 (strV []) (.string ⟨#[]⟩)).run Tryz.prog W = .ok (.bool false) W := by
  unfold strV; go_simp
theorem neE_cons (c : UInt8) (l : List UInt8) (W : World) : (binOp .neq 9 (strV (c :: l)) (.string ⟨#[]⟩)).run Tryz.prog W = .ok (.bool true) W := by
  have h : ((⟨(c :: l).toArray⟩ : ByteArray) == ⟨#[]⟩) = false := rfl
  unfold strV
  go_simp
theorem eqG_eql (o1 o2 : Operand) (l : List UInt8) (s : ByteArray) (W : World) : (eqGuard .eql 9 o1 o2 (strV l) (.string s)).run Tryz.prog W = .ok () W := by
  unfold strV; go_simp
theorem eqG_neq (o1 o2 : Operand) (l : List UInt8) (s : ByteArray) (W : World) : (eqGuard .neq 9 o1 o2 (strV l) (.string s)).run Tryz.prog W = .ok () W := by
  unfold strV; go_simp
end Go.Proofs.YtfdaljekehkkaaaGreatDoor
