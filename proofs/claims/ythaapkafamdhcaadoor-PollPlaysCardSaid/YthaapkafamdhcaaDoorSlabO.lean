/- The program's slab, its row opened. -/
import Derived.Test.YthaapkafamdhcaaDoorSlabD
import Derived.BigRegion
import Derived.Deep.AppendLies
import Derived.OwnWalk
namespace Go.Proofs.YthaapkafamdhcaaDoor
open Go.RowKit
set_option maxRecDepth 10000
set_option linter.unusedVariables false

theorem slabA_open {w : World} {g : Nat} {F : List Nat} {S : Slb} {K : Nat} (h : SlabA w g F S K) :
    ∃ A cap, w.cell? ⟨g, 1, none⟩ = some (.int .i64 S.cnt) ∧ w.cell? ⟨g, 2, none⟩ = some (.slice A S.us.length cap) ∧ S.us.length ≤ cap ∧ cap ≤ maxLen ∧
      ∀ i, i < S.us.length → ∃ sb v, A = some ⟨sb, 0, none⟩ ∧ w.cell? ⟨sb, i * 2, none⟩ = some (.int .i64 (S.gs.getD i 0)) ∧ w.cell? ⟨sb, i * 2 + 1, none⟩ = some (.int .i64 v) := by
  obtain ⟨sv, cs, xs, U, hF, hrow, hsz, h0, h1, h2, hU, hown, hx, hbit, hok⟩ := h
  obtain ⟨A, cap, rfl, hcap, hmx⟩ := own_slice hown
  refine ⟨A, cap, by rw [hrow.cell]; exact h1, by rw [hrow.cell]; exact h2, hcap, hmx, fun i hi => ?_⟩
  obtain ⟨sb, cap', hsv, hsb, _, _⟩ := own_some hown (by omega)
  injection hsv with e1 e2 e3
  subst e1
  obtain ⟨hx1, v, hx2, _⟩ := hx i hi
  exact ⟨sb, v, rfl, by rw [hown.cellAt _ (by omega), Nat.mul_comm]; exact hx1, by rw [hown.cellAt _ (by omega), Nat.mul_comm]; exact hx2⟩
theorem new_at {w : World} {o : Obj} {n : Nat} (h : w.heap.size = n) : (w.alloc o).heap[n]? = some o := by subst h; exact heap_alloc_new w o
theorem hand_info : (Tryd.prog.info? 47).map (fun i => (i.zero, i.size, i.bytes)) = some (some (.agg #[.int .i64 0, .int .i64 0]), 2, 16) := by kernel_rfl
end Go.Proofs.YthaapkafamdhcaaDoor
