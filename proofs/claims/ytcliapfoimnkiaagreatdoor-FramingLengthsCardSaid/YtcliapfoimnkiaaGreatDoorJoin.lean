/- The code's Join answers the texts one behind the other. Conditions: at most 2^47 bytes in all. -/
import Derived.Test.YtcliapfoimnkiaaGreatDoorTok
namespace Go.Proofs.YtcliapfoimnkiaaGreatDoor
open Go.RowKit
set_option linter.unusedVariables false

/-- The bytes of the first k texts, one behind the other. -/
def joinF (f : Nat → ByteArray) : Nat → List UInt8
  | 0 => []
  | k + 1 => joinF f k ++ (f k).data.toList
theorem joinF_le (f : Nat → ByteArray) (k n : Nat) (h : k ≤ n) : (joinF f k).length ≤ (joinF f n).length := by
  induction n with
  | zero => obtain rfl : k = 0 := by omega
            exact Nat.le_refl _
  | succ n ih =>
    by_cases e : k = n + 1
    · subst e; exact Nat.le_refl _
    · have := ih (by omega); simp only [joinF, List.length_append]; omega
theorem joinF_succ (f : Nat → ByteArray) (k : Nat) : (joinF f (k + 1)).length = (joinF f k).length + (f k).size := by
  simp only [joinF, List.length_append]; rfl
theorem cells_join (f : Nat → ByteArray) (k : Nat) : Lib.byteCells (joinF f k) ++ Lib.strCells (f k) = Lib.byteCells (joinF f (k + 1)) := by
  simp [Lib.byteCells, Lib.strCells, joinF]

end Go.Proofs.YtcliapfoimnkiaaGreatDoor
