/- The code's IsValue answers whether a text is a value. Conditions: a text that can be read. -/
import Derived.Test.YtgckpoecdaioiaaTok
namespace Go.Proofs.Ytgckpoecdaioiaa
open Go.RowKit
set_option linter.unusedVariables false

/-- A byte of a value. -/
def valB (c : UInt8) : Bool := decide (c.toNat = 9) || (decide (32 ≤ c.toNat) && !decide (c.toNat = 127))
def valL (l : List UInt8) : Bool := l.all valB
theorem val_1 {c : UInt8} (h : c.toNat = 9) : valB c = true := by simp [valB, h]
theorem val_2 {c : UInt8} (h : 32 ≤ c.toNat) (h2 : c.toNat ≠ 127) : valB c = true := by simp [valB, h, h2]
theorem val_3 {c : UInt8} (h : c.toNat ≠ 9) (h2 : c.toNat < 32) : valB c = false := by simp [valB, h]; omega
theorem val_4 {c : UInt8} (h : c.toNat = 127) : valB c = false := by simp [valB, h]


theorem valL_no {s : ByteArray} (k : Nat) (h : k < s.size) (ht : valB s[k] = false) : valL s.data.toList = false := by
  unfold valL
  rw [List.all_eq_false]
  exact ⟨s[k], List.getElem_mem (by exact h), by simp [ht]⟩
end Go.Proofs.Ytgckpoecdaioiaa
