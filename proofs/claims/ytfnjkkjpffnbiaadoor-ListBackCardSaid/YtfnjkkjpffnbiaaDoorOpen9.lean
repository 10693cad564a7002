/- What a slice of strings that came in is in memory, with its room. Conditions: it lies within the reach. -/
import Derived.Test.YtfnjkkjpffnbiaaDoorOpen
import Derived.Test.YtfnjkkjpffnbiaaDoorLi9
namespace Go.Proofs.YtfnjkkjpffnbiaaDoor
open Go.ChangeShapes Go.WideShapes Go.ChangeAt Go.RowKit
set_option linter.unusedVariables false

/-- What a walk is told of a slice of strings that came in, its room too. -/
def IsStrs9 (W : World) (v : Value) : Prop := ∃ ts a cap, v = .slice a ts.length cap ∧ ts.length ≤ cap ∧ StrsAt W v ts ∧ (∀ t ∈ ts, t.size ≤ 140737488351232) ∧ ts.length ≤ 140737488351232
theorem open_strs9 {H : Type} {enc : TypeId × Value → H} {P : Program} {W : World} {t e : TypeId} {v : Value} {d : DataW H} {ps : List MemPlace} {base : Nat}
    (ht : P.underlying t = some (.slice e)) (he : P.underlying e = some .string) (hc : P.cellsOf e = 1) (hb : P.bytesOf e = 16)
    (hval : Value.okWide P W .any base t v) (h : DataW.Trod enc P W 0 (fun _ => true) true t v d ps) (hsz : ∀ n ∈ d.weights P t, n ≤ reachBytes) : IsStrs9 W v := by
  have hstrs := strs_of (open_slice_string ht he hc hb hval h hsz)
  obtain ⟨ts, hts, hz, hl⟩ := hstrs
  obtain ⟨a, cap, rfl⟩ := hts.len
  refine ⟨ts, a, cap, rfl, ?_, hts, hz, hl⟩
  obtain ⟨fuel, hf⟩ := h
  rcases open_strings ht he hc hf with ⟨hcs, _⟩ | ⟨x, l, c, ss, hcs, _, hl, hm, hz, hx, hcell, hws⟩
  · simp [Value.cells] at hcs
    simp [hcs.2.1]
  · simp [Value.cells] at hcs
    obtain ⟨rfl, rfl, rfl⟩ := hcs
    omega
end Go.Proofs.YtfnjkkjpffnbiaaDoor
