/- Print of the code. Conditions: none but that texts can be read. -/
import Derived.Test.YtgckpoecdaioiaaTv11
import Derived.Test.YtgckpoecdaioiaaTo11
import Derived.Deep.RegionHeld3
namespace Go.Proofs.Ytgckpoecdaioiaa
open Go.RowKit
set_option linter.unusedVariables false
set_option linter.unusedSimpArgs false

def sameT (a b : Tgt) : Bool := a.form == b.form && ((a.host.toList == b.host.toList) && ((a.path.toList == b.path.toList) && (a.query.toList == b.query.toList)))
theorem sameT_iff (a b : Tgt) : sameT a b = true ↔ a = b := by
  unfold sameT
  simp only [Bool.and_eq_true, beq_iff_eq, ByteArray.toList_eq]
  constructor
  · rintro ⟨h1, h2, h3, h4⟩
    exact Tgt.ext' h1 (bytes_ext h2) (bytes_ext h3) (bytes_ext h4)
  · rintro rfl; exact ⟨rfl, rfl, rfl, rfl⟩
theorem eql_T (a b : Tgt) (w : World) : (Op.equalIn 10000 23 (.agg a.cells) (.agg b.cells)).run Try.prog w = .ok (sameT a b) w := by
  have u3 := Try.underlying3
  have a3 := Try.isAgg3
  have z3 := Try.sizeOf3
  have u9 := Try.underlying9
  have a9 := Try.isAgg9
  have z9 := Try.sizeOf9
  have hS : Try.prog.underlying 23 = some (.struct (Try.prog.fieldsOf 23)) := by kernel_rfl
  have hp : Try.prog.stoodInHeld 23 = false := by kernel_rfl
  rw [show (10000 : Nat) = 9999 + 1 from rfl, run_equalIn_agg w 9999 23 _ _ hS hp]
  simp only [Program.fieldsOf, Try.underlying23]
  unfold sameT Tgt.cells
  go_simp
  by_cases h1 : a.form = b.form
  · by_cases h2 : a.host.toList = b.host.toList
    · by_cases h3 : a.path.toList = b.path.toList
      · by_cases h4 : a.query.toList = b.query.toList <;> simp [h1, h2, h3, h4]
      · simp [h1, h2, h3]
    · simp [h1, h2]
  · simp [h1]
theorem neq_T {a b : Tgt} {r : Bool} (h : sameT a b = r) (w : World) : (binOp .neq 23 (.agg a.cells) (.agg b.cells)).run Try.prog w = .ok (.bool (!r)) w := by
  rw [run_neq_struct, eql_T, h]; rfl
theorem gd_T : Try.prog.eqGuardType Try.prog.depth 23 = false := by kernel_rfl
end Go.Proofs.Ytgckpoecdaioiaa
