/- The code's and the document's function on one byte both answer the digit that it is, or that it is none, at every byte. Conditions: none. -/
import Derived.Test.YtakimadhbgpedaaDoorLow
namespace Go.Proofs.YtakimadhbgpedaaDoor
open Go.RowKit
set_option linter.unusedVariables false

/-- The digit that a byte is; 16: it is none. -/
def digB (c : UInt8) : Int :=
  if 48 ≤ c.toNat ∧ c.toNat ≤ 57 then (c.toNat : Int) - 48
  else if 97 ≤ (lowB c).toNat ∧ (lowB c).toNat ≤ 102 then ((lowB c).toNat : Int) - 87 else 16
/-- The same; -1: it is none. -/
def digR (c : UInt8) : Int :=
  if 48 ≤ c.toNat ∧ c.toNat ≤ 57 then (c.toNat : Int) - 48
  else if 97 ≤ (lowB c).toNat ∧ (lowB c).toNat ≤ 102 then ((lowB c).toNat : Int) - 87 else -1

theorem ret_int {k : IntKind} {a b : Int} (h : a = b) : Ending.returned (.int k a) = .returned (.int k b) := by rw [h]
theorem dig_1 {c : UInt8} (h : 48 ≤ c.toNat) (h2 : c.toNat ≤ 57) : digB c = (c.toNat : Int) - 48 := by unfold digB; rw [if_pos ⟨h, h2⟩]
theorem dig_2 {c : UInt8} (h : ¬ (48 ≤ c.toNat ∧ c.toNat ≤ 57)) (h2 : 97 ≤ (lowB c).toNat) (h3 : (lowB c).toNat ≤ 102) : digB c = ((lowB c).toNat : Int) - 87 := by unfold digB; rw [if_neg h, if_pos ⟨h2, h3⟩]
theorem dig_3 {c : UInt8} (h : ¬ (48 ≤ c.toNat ∧ c.toNat ≤ 57)) (h2 : ¬ (97 ≤ (lowB c).toNat ∧ (lowB c).toNat ≤ 102)) : digB c = 16 := by unfold digB; rw [if_neg h, if_neg h2]
theorem digB_le (c : UInt8) : 0 ≤ digB c ∧ digB c ≤ 16 := by
  unfold digB; split
  · omega
  · split <;> omega
theorem digR_eq (c : UInt8) : digR c = if digB c = 16 then -1 else digB c := by
  unfold digB digR
  split
  · rw [if_neg (by omega)]
  · split
    · rw [if_neg (by omega)]
    · rw [if_pos rfl]

theorem digR_1 {c : UInt8} (h : 48 ≤ c.toNat) (h2 : c.toNat ≤ 57) : digR c = (c.toNat : Int) - 48 := by unfold digR; rw [if_pos ⟨h, h2⟩]
theorem digR_2 {c : UInt8} (h : ¬ (48 ≤ c.toNat ∧ c.toNat ≤ 57)) (h2 : 97 ≤ (lowB c).toNat) (h3 : (lowB c).toNat ≤ 102) : digR c = ((lowB c).toNat : Int) - 87 := by unfold digR; rw [if_neg h, if_pos ⟨h2, h3⟩]
theorem digR_3 {c : UInt8} (h : ¬ (48 ≤ c.toNat ∧ c.toNat ≤ 57)) (h2 : ¬ (97 ≤ (lowB c).toNat ∧ (lowB c).toNat ≤ 102)) : digR c = -1 := by unfold digR; rw [if_neg h, if_neg h2]
end Go.Proofs.YtakimadhbgpedaaDoor
