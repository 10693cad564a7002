/- The contract of the library's Itoa at this program. Conditions: its table is laid. -/
import Derived.Shelf.Strconv.Itoa3
import Derived.Lib.LaidTab
import Derived.Lib.SmallJoins
import Derived.Test.YtdalomhcglbhjaaGreatDoorProg
namespace Go.Proofs.YtdalomhcglbhjaaGreatDoor
open Go.Shelf

open Go.RowKit in
theorem below_more (w : World) (k : Nat) (os : Array Obj) : Below w.heap.size w (Go.Sort.grow (w.drewN k) os) :=
  ⟨rfl, rfl, rfl, by simp [Go.Sort.grow], fun i hi => by
    show ((w.drewN k).heap ++ os)[i]? = _
    rw [Array.getElem?_append_left (by exact hi)]; rfl⟩
end Go.Proofs.YtdalomhcglbhjaaGreatDoor
