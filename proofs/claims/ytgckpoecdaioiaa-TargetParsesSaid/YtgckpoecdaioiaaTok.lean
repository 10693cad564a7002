/- The code's IsToken answers whether a text is a token. Conditions: a text that can be read. -/
import Derived.Test.YtgckpoecdaioiaaSame
import Derived.Test.YtgckpoecdaioiaaShelf
import Derived.Test.YtgckpoecdaioiaaNum
namespace Go.Proofs.Ytgckpoecdaioiaa
open Go.RowKit
set_option linter.unusedVariables false

def marksL : List UInt8 := [33, 35, 36, 37, 38, 39, 42, 43, 45, 46, 94, 95, 96, 124, 126]
/-- A byte of a token. -/
def tokB (c : UInt8) : Bool := decide (97 ≤ (lowB c).toNat ∧ (lowB c).toNat ≤ 122) || decide (48 ≤ c.toNat ∧ c.toNat ≤ 57) || decide (0 ≤ Lib.indexByte marksL c)
def tokL (l : List UInt8) : Bool := l.all tokB && !l.isEmpty
theorem tok_1 {c : UInt8} (h : 97 ≤ (lowB c).toNat) (h2 : (lowB c).toNat ≤ 122) : tokB c = true := by
  unfold tokB; rw [decide_eq_true (show _ ∧ _ from ⟨h, h2⟩)]; rfl
theorem tok_2 {c : UInt8} (h : 48 ≤ c.toNat) (h2 : c.toNat ≤ 57) : tokB c = true := by
  unfold tokB; rw [decide_eq_true (show 48 ≤ c.toNat ∧ c.toNat ≤ 57 from ⟨h, h2⟩)]; simp
theorem tok_3 {c : UInt8} (h : 0 ≤ Lib.indexByte marksL c) : tokB c = true := by
  unfold tokB; rw [decide_eq_true h]; simp
theorem tok_4 {c : UInt8} (h : ¬ (97 ≤ (lowB c).toNat ∧ (lowB c).toNat ≤ 122)) (h2 : ¬ (48 ≤ c.toNat ∧ c.toNat ≤ 57)) (h3 : ¬ 0 ≤ Lib.indexByte marksL c) : tokB c = false := by
  unfold tokB; rw [decide_eq_false h, decide_eq_false h2, decide_eq_false h3]; rfl
theorem take_snoc (s : ByteArray) (k : Nat) (h : k < s.size) : s.data.toList.take (k + 1) = s.data.toList.take k ++ [s[k]] := by
  rw [List.take_succ_eq_append_getElem (by simpa using h)]; rfl
theorem tokL_no {s : ByteArray} (k : Nat) (h : k < s.size) (ht : tokB s[k] = false) : tokL s.data.toList = false := by
  unfold tokL
  have : s.data.toList.all tokB = false := by
    rw [List.all_eq_false]
    exact ⟨s[k], List.getElem_mem (by exact h), by simp [ht]⟩
  rw [this]; rfl
theorem tokL_yes {s : ByteArray} (h : s.data.toList.all tokB = true) : tokL s.data.toList = !s.data.toList.isEmpty := by
  unfold tokL; rw [h]; rfl
theorem index_marks (c : UInt8) (w : World) :
    Calls Try.prog 52 #[.string { data := #[33, 35, 36, 37, 38, 39, 42, 43, 45, 46, 94, 95, 96, 124, 126] }, .int .u8 (c.toNat : Int)] w fun e w' => e = .returned (.int .i64 (Lib.indexByte marksL c)) ∧ w = w' :=
  (index_byte _ _ _).mono fun e w' ⟨he, hw⟩ => ⟨by rw [he, Int.toNat_natCast, show c.toNat.toUInt8 = c from UInt8.ofNat_toNat]; rfl, hw.symm⟩

end Go.Proofs.Ytgckpoecdaioiaa
