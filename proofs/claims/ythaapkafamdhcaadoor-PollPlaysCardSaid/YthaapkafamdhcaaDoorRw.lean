/- Rows of bytes that are handed in, one behind the other. -/
import Derived.Test.YthaapkafamdhcaaDoorProg
import Derived.WalkKit
import Derived.ProofKit
import Derived.RegionTactic
import Derived.Deep.QuietTactic
import Derived.BigQuiet
import Derived.Outline
import Derived.LoopTactic
import Derived.WalkLawsBesides
import Derived.WalkSpells
import Derived.Test.YthaapkafamdhcaaDoorBy
namespace Go.Proofs.YthaapkafamdhcaaDoor
open Go.RowKit
set_option maxRecDepth 10000
set_option linter.unusedVariables false
set_option linter.unusedSimpArgs false

/-- A row that is handed in. -/
structure Rw where
  A : Option Addr
  l : List Int
  c : Nat
structure RowsAt (w : World) (F : List Nat) (b : Nat) (rs : List Rw) : Prop where
  lt : b < w.heap.size
  out : b ∉ F
  cell : ∀ i r, rs[i]? = some r → w.cell? ⟨b, i, none⟩ = some (.slice r.A r.l.length r.c)
  at_ : ∀ r ∈ rs, At w F r.A r.l ∧ r.l.length ≤ r.c ∧ r.c ≤ maxLen
def flatR (rs : List Rw) : List Int := rs.flatMap (·.l)
theorem RowsAt.mods {w w' : World} {F : List Nat} {b : Nat} {rs : List Rw} (h : RowsAt w F b rs) (hm : Mods F w w') : RowsAt w' F b rs :=
  ⟨Nat.lt_of_lt_of_le h.lt hm.size, h.out, fun i r hr => cell_mods (h.cell i r hr) hm h.out, fun r hr => ⟨(h.at_ r hr).1.mods hm, (h.at_ r hr).2⟩⟩
theorem flatR_snoc (rs : List Rw) (k : Nat) (h : k < rs.length) : flatR (rs.take (k + 1)) = flatR (rs.take k) ++ rs[k].l := by
  unfold flatR; rw [List.take_succ_eq_append_getElem h, List.flatMap_append, List.flatMap_cons, List.flatMap_nil, List.append_nil]
theorem u8_info3 : (Tryd.prog.info? 5).map (fun i => (i.zero, i.size, i.bytes)) = some (some (.int .u8 0), 1, 1) := by kernel_rfl
theorem make_u8 (n : Nat) (h : n ≤ 1000000000) (w : World) : (Instr.makeSlice 72 (.int .i64 (n : Int)) (.int .i64 (n : Int))).run Tryd.prog w =
    .ok (.slice (some ⟨w.heap.size, 0, none⟩) n n) (w.alloc (.cells (madeCells #[.int .u8 0] n) 5)) := by
  obtain ⟨i, hi, hz, hs, hb⟩ := info_parts u8_info3
  have := run_make (P := Tryd.prog) w 72 5 i (.int .u8 0) Tryd.underlying72 hi hz .i64 .i64 n n (by omega) (Int.le_refl _) (by rw [hb]; omega) (by omega)
  simpa [hs, Value.cells] using this
end Go.Proofs.YthaapkafamdhcaaDoor
