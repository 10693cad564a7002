/- Rows of bytes that are handed to Write. -/
import Derived.Test.YthaapkafamdhcaaDoorCat
import Derived.Lib.SmallJoins
namespace Go.Proofs.YthaapkafamdhcaaDoor
open Go.RowKit
set_option maxRecDepth 10000
set_option linter.unusedVariables false
set_option linter.unusedSimpArgs false

def Rw.Ok (w : World) (F : List Nat) (r : Rw) : Prop := At w F r.A r.l ∧ r.l.length ≤ r.c ∧ r.c ≤ maxLen
theorem Rw.Ok.mods {w w' : World} {F : List Nat} {r : Rw} (h : r.Ok w F) (hm : Mods F w w') : r.Ok w' F := ⟨h.1.mods hm, h.2⟩
theorem rows_two {w : World} {F : List Nat} {b : Nat} (r1 r2 : Rw) (hb : b = w.heap.size) (h1 : r1.Ok w F) (h2 : r2.Ok w F) (hF : b ∉ F) :
    RowsAt (w.alloc (.cells #[.slice r1.A r1.l.length r1.c, .slice r2.A r2.l.length r2.c] 72)) F b [r1, r2] := by
  subst hb
  have hrow := Row.new w 72 #[.slice r1.A r1.l.length r1.c, .slice r2.A r2.l.length r2.c]
  refine ⟨by simp, hF, fun i r hr => ?_, fun r hr => ?_⟩
  · match i, hr with
    | 0, hr => injection hr with hr; subst hr; exact hrow.cell 0
    | 1, hr => injection hr with hr; subst hr; exact hrow.cell 1
  · simp only [List.mem_cons, List.mem_nil_iff, or_false] at hr
    rcases hr with rfl | rfl
    · exact h1.mods ((Mods.refl _ _).alloc _)
    · exact h2.mods ((Mods.refl _ _).alloc _)
theorem rows_one {w : World} {F : List Nat} {b : Nat} (r1 : Rw) (hb : b = w.heap.size) (h1 : r1.Ok w F) (hF : b ∉ F) :
    RowsAt (w.alloc (.cells #[.slice r1.A r1.l.length r1.c] 72)) F b [r1] := by
  subst hb
  have hrow := Row.new w 72 #[.slice r1.A r1.l.length r1.c]
  refine ⟨by simp, hF, fun i r hr => ?_, fun r hr => ?_⟩
  · match i, hr with
    | 0, hr => injection hr with hr; subst hr; exact hrow.cell 0
  · simp only [List.mem_cons, List.mem_nil_iff, or_false] at hr
    subst hr
    exact h1.mods ((Mods.refl _ _).alloc _)
theorem rw_lit (w : World) (F : List Nat) (l : List Int) (b n : Nat) (hb : b = w.heap.size) (hn : n = l.length) (hF : b ∉ F) (hr : ∀ x ∈ l, 0 ≤ x ∧ x ≤ 255) (hl : n ≤ 1000) : Rw.Ok (w.alloc (.cells (bv l).toArray 5)) F ⟨some ⟨b, 0, none⟩, l, n⟩ := by
  subst hb hn
  exact ⟨At.lit w F _ l hF hr, Nat.le_refl _, by unfold maxLen; show l.length ≤ _; omega⟩
theorem rw_litm (w : World) (F : List Nat) (l : List Int) (b n : Nat) (fr : Nat × Nat) (hb : b = w.heap.size) (hn : n = l.length) (hF : b ∉ F) (hr : ∀ x ∈ l, 0 ≤ x ∧ x ≤ 255) (hl : n ≤ 1000) : Rw.Ok (w.alloc (.cells (bv l).toArray 5 fr)) F ⟨some ⟨b, 0, none⟩, l, n⟩ := by
  subst hb hn
  refine ⟨fun i x hx => ⟨w.heap.size, 0, rfl, by simp, hF, ?_, hr x (List.mem_of_getElem? hx)⟩, Nat.le_refl _, by unfold maxLen; show l.length ≤ _; omega⟩
  rw [World.cell?_alloc_mark, Nat.zero_add, List.getElem?_toArray]
  exact (bv_at l i _).2 ⟨x, hx, rfl⟩
theorem conv_u8 (w : World) (C : Array Value) (n c g : Nat) (hg : g = w.heap.size) : (convert 72 72 (.slice (some ⟨g, 0, none⟩) n c)).run Tryd.prog (w.alloc (.cells C 5)) = .ok (.slice (some ⟨g, 0, none⟩) n c) (w.alloc (.cells C 5 (C.size, C.size + 1))) :=
  Joins.run_convert_bytes_const_at w 72 5 C n c g hg Tryd.underlying72 Tryd.underlying5
end Go.Proofs.YthaapkafamdhcaaDoor
