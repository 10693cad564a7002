/- The document's IsToken and IsValue answer what the code's do. Conditions: a text that can be read. -/
import Derived.Test.YtdalomhcglbhjaaDoorVal
namespace Go.Proofs.YtdalomhcglbhjaaDoor
open Go.RowKit
set_option linter.unusedVariables false

def alB (c : UInt8) : Bool := (decide (97 ≤ c.toNat) && decide (c.toNat ≤ 122)) || (decide (65 ≤ c.toNat) && decide (c.toNat ≤ 90)) || (decide (48 ≤ c.toNat) && decide (c.toNat ≤ 57))
def inL (l : List UInt8) (c : UInt8) : Bool := l.any (fun x => x == c)
theorem by_byte (p : UInt8 → Bool) (h : (List.range 256).all (fun n => p (UInt8.ofNat n)) = true) (c : UInt8) : p c = true := by
  have := List.all_eq_true.1 h c.toNat (by rw [List.mem_range]; exact c.toNat_lt)
  rwa [UInt8.ofNat_toNat] at this
theorem tokB_al (c : UInt8) : tokB c = (alB c || inL marksL c) := by
  have := by_byte (fun c => tokB c == (alB c || inL marksL c)) (by decide +kernel) c
  simpa using this
theorem nil_data {t : ByteArray} (h : t.size = 0) : t.data.toList = [] := List.eq_nil_of_length_eq_zero (by rw [len_data]; exact h)
theorem eq_byte {x y : UInt8} (h : x = y) : ((x.toNat : Int) == (y.toNat : Int)) = true := by rw [h]; simp






end Go.Proofs.YtdalomhcglbhjaaDoor
