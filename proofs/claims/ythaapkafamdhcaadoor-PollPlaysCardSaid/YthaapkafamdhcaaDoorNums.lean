/- Numbers in a row. No text of the program. -/
import Derived.Test.YthaapkafamdhcaaDoorBy
namespace Go.Proofs.YthaapkafamdhcaaDoor
open Go.RowKit

/-- Numbers in a row, in a block that is not of F. -/
def NumsAt (w : World) (F : List Nat) (A : Option Addr) (l : List Int) : Prop :=
  ∀ i x, l[i]? = some x → ∃ b o, A = some ⟨b, o, none⟩ ∧ b < w.heap.size ∧ b ∉ F ∧ w.cell? ⟨b, o + i, none⟩ = some (.int .i64 x)
theorem NumsAt.mods {w w' : World} {F : List Nat} {A : Option Addr} {l : List Int} (h : NumsAt w F A l) (hm : Mods F w w') : NumsAt w' F A l := fun i x hx => by
  obtain ⟨b, o, e, hb, hF, hc⟩ := h i x hx
  exact ⟨b, o, e, Nat.lt_of_lt_of_le hb hm.size, hF, cell_mods hc hm hF⟩
/-- Numbers as cells. -/
def iv (l : List Int) : List Value := l.map (.int .i64)
theorem NumsAt.new (w : World) (F : List Nat) (t : TypeId) (l : List Int) (hF : w.heap.size ∉ F) : NumsAt (w.alloc (.cells (iv l).toArray t)) F (some ⟨w.heap.size, 0, none⟩) l := fun i x hx => by
  refine ⟨w.heap.size, 0, rfl, by simp, hF, ?_⟩
  rw [Nat.zero_add, (Row.new w t _).cell i, List.getElem?_toArray]
  simp [iv, hx]
end Go.Proofs.YthaapkafamdhcaaDoor
