/- The library's table of 64 and the contract of TrailingZeros64 at this program. -/
import Derived.Shelf.Spec.TrailingZeros
import Derived.Lib.LaidTab
import Derived.Test.YthaapkafamdhcaaDoorProg
import Derived.Test.YthaapkafamdhcaaDoorMem
namespace Go.Proofs.YthaapkafamdhcaaDoor
open Go.Shelf Go.RowKit
def tz_ren : Go.Shelf.Ren := ⟨fun | 29 => 87 | n => n, fun | 0 => 0 | 3 => 3 | 4 => 4 | 5 => 5 | 22 => 141 | 25 => 165 | 54 => 164 | n => n, fun | 1 => 0 | n => n⟩
theorem tz_lay : Go.Proofs.Lays7.n29 Tryd.prog tz_ren := {
  mixed := by kernel_rfl
  f29 := Tryd.func87.trans (congrArg some (by kernel_rfl))
  t0 := Tryd.underlying0
  a0 := Tryd.isAgg0
  z0 := Tryd.sizeOf0
  v0 := Tryd.zeroValue0
  i0 := by kernel_rfl
  t3 := Tryd.underlying3
  a3 := Tryd.isAgg3
  z3 := Tryd.sizeOf3
  v3 := Tryd.zeroValue3
  i3 := by kernel_rfl
  t4 := Tryd.underlying4
  a4 := Tryd.isAgg4
  z4 := Tryd.sizeOf4
  v4 := Tryd.zeroValue4
  i4 := by kernel_rfl
  t5 := Tryd.underlying5
  a5 := Tryd.isAgg5
  z5 := Tryd.sizeOf5
  v5 := Tryd.zeroValue5
  i5 := by kernel_rfl
  t22 := Tryd.underlying141
  a22 := Tryd.isAgg141
  z22 := Tryd.sizeOf141
  v22 := Tryd.zeroValue141
  i22 := by kernel_rfl
  t25 := Tryd.underlying165
  a25 := Tryd.isAgg165
  z25 := Tryd.sizeOf165
  v25 := Tryd.zeroValue165
  i25 := by kernel_rfl
  t54 := Tryd.underlying164
  a54 := Tryd.isAgg164
  z54 := Tryd.sizeOf164
  g1 := by kernel_rfl
 }
/-- The table lies as its initialiser lays it. -/
def TzTab (w : World) : Prop := Go.Proofs.TabAt 0 Lib.deBruijn64tab w
theorem TzTab.keep {w w' : World} (h : TzTab w) (e : w'.heap[0]? = w.heap[0]?) : TzTab w' := fun j hj => (World.cell?_of_block (w := w) e).trans (h j hj)
theorem TzTab.lt {w : World} (h : TzTab w) : 0 < w.heap.size := World.block_lt_of_cell? w _ (h 0 (by decide))
theorem TzTab.below {w w' : World} (h : TzTab w) (hb : Below w.heap.size w w') : TzTab w' := h.keep (hb.block _ h.lt)
theorem TzTab.mods {F : List Nat} {w w' : World} (h : TzTab w) (hb : Mods F w w') (hn : 0 ∉ F) : TzTab w' := h.keep (hb.block _ h.lt hn)
theorem tz64 (x : Nat) (hx : x < 18446744073709551616) (w : World) (h : TzTab w) :
    Calls Tryd.prog 87 #[.int .u64 x] w fun e w' => e = .returned (.int .i64 (Lib.ctz 64 x)) ∧ w = w' :=
  (Go.Proofs.Any7.bits_TrailingZeros64 tz_lay x hx w fun _ => h).mono fun _ _ ⟨a, b⟩ => ⟨a, b.symm⟩
#print axioms tz64
end Go.Proofs.YthaapkafamdhcaaDoor
