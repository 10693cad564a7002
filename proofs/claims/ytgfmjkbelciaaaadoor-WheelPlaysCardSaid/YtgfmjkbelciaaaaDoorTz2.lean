/- The library's table, out of what a card ties. -/
import Derived.Test.YtgfmjkbelciaaaaDoorRows
import Derived.Test.YtgfmjkbelciaaaaDoorTz
import Derived.LaidSub
import Derived.Lib.LaidTab
namespace Go.Proofs.YtgfmjkbelciaaaaDoor
open Go.RowKit
theorem tz_data : (Rows.laid_math_bits_deBruijn64tab : DataW Unit) = Lib.tabData .u8 (Lib.deBruijn64tab.map fun n : Nat => (n : Int)) := by kernel_rfl
theorem gTz : Tryd.prog.globalNamed "math/bits.deBruijn64tab" = some 0 := by kernel_rfl
theorem tz_of {W : World} {L : List (String × DataW Unit)} (hL : laidMet Tryd.prog L W) (hf : L.filter (fun x => x.1 == "math/bits.deBruijn64tab") = [("math/bits.deBruijn64tab", Rows.laid_math_bits_deBruijn64tab)]) : TzTab W := by
  have h1 := hL.filter (fun x => x.1 == "math/bits.deBruijn64tab")
  rw [hf, tz_data] at h1
  have h2 := Lib.tabIs_of_head (rest := []) gTz (by kernel_rfl) Tryd.underlying114 Tryd.underlying5 (by kernel_rfl) (by kernel_rfl) h1
  intro j hj
  have h3 := h2.cell gTz j (by simpa using hj)
  rw [h3]
  simp [List.getD_eq_getElem?_getD, List.getElem?_map, List.getElem?_eq_getElem hj]
end Go.Proofs.YtgfmjkbelciaaaaDoor
