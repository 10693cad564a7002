/- What a slice of strings that came in is in memory. Conditions: it lies within the reach. -/
import Derived.Test.YtgkhelbpccehcaaGreatDoorChecked
import Derived.WalkKit
import Derived.ProofKit
import Derived.OpenShut
import Derived.SizedLaws
import Derived.SliceStrings
namespace Go.Proofs.YtgkhelbpccehcaaGreatDoor
open Go.ChangeShapes Go.WideShapes Go.ChangeAt Go.RowKit
set_option linter.unusedVariables false

/-- What a walk is told of a slice of strings that came in. -/
def IsStrs (W : World) (v : Value) : Prop :=
  (∃ a cap, v = .slice a 0 cap) ∨
  ∃ (b off len cap : Nat) (f : Nat → ByteArray), v = .slice (some ⟨b, off, none⟩) len cap ∧ 0 < len ∧ len ≤ 8796093022208 ∧ b < W.heap.size ∧
    (∀ j, j < len → W.cell? ⟨b, off + j, none⟩ = some (.string (f j))) ∧ ∀ j, j < len → (f j).size ≤ 140737488351232
theorem add_none (b off j : Nat) : (⟨b, off, none⟩ : Addr).add j = ⟨b, off + j, none⟩ := by
  unfold Addr.add; split <;> simp_all
theorem weights_all {H : Type} {P : Program} {e : TypeId} {d : DataW H} {n : Nat} (hn : n ∈ d.weights P e) : ∀ {l : List (DataW H)}, d ∈ l → n ∈ DataW.weightsAll P e l
  | x :: r, h => by
    rw [List.mem_cons] at h
    simp only [DataW.weightsAll, List.mem_append]
    rcases h with rfl | h
    · exact Or.inl hn
    · exact Or.inr (weights_all hn h)
theorem cell_lt {W : World} {p : Addr} {v : Value} (h : W.cell? p = some v) : p.block < W.heap.size := by
  rcases Nat.lt_or_ge p.block W.heap.size with h' | h'
  · exact h'
  · simp [World.cell?, Array.getElem?_eq_none h'] at h
theorem open_slice_string {H : Type} {enc : TypeId × Value → H} {P : Program} {W : World} {t e : TypeId} {v : Value} {d : DataW H} {ps : List MemPlace} {base : Nat}
    (ht : P.underlying t = some (.slice e)) (he : P.underlying e = some .string) (hc : P.cellsOf e = 1) (hb : P.bytesOf e = 16)
    (hval : Value.okWide P W .any base t v) (h : DataW.Trod enc P W 0 (fun _ => true) true t v d ps) (hsz : ∀ n ∈ d.weights P t, n ≤ reachBytes) : IsStrs W v := by
  obtain ⟨a0, len0, cap0, rfl⟩ := okWide_slice ht hval
  obtain ⟨fuel, hf⟩ := h
  rcases open_strings ht he hc hf with ⟨hcs, _⟩ | ⟨x, l, c, ss, hcs, _, hl, hm, hz, hx, hcell, hws⟩
  · simp [Value.cells] at hcs
    obtain ⟨rfl, rfl, rfl⟩ := hcs
    exact Or.inl ⟨_, _, rfl⟩
  · simp [Value.cells] at hcs
    obtain ⟨rfl, rfl, rfl⟩ := hcs
    simp only [Prod.mk.injEq] at hx
    obtain ⟨rfl, _⟩ := hx
    by_cases h0 : len0 = 0
    · subst h0; exact Or.inl ⟨_, _, rfl⟩
    · right
      have hz' : ss.length = cap0 := by simpa using hz
      obtain ⟨b, off, spot⟩ := x
      have hc0 := hcell 0 (by omega)
      have hspot : spot = none := by simpa [Addr.add] using World.cell?_spot hc0
      subst hspot
      have hw : (len0 + (cap0 - len0)) * 16 ≤ reachBytes := by
        have := hsz _ (by simp only [DataW.weights, ht]; exact List.mem_cons_self)
        simp only [strs, List.length_map, List.length_take, List.length_drop, hb] at this
        rw [show min len0 ss.length = len0 by omega, hz'] at this
        exact this
      have hr : reachBytes = 140737488351232 := rfl
      refine ⟨b, off, len0, cap0, fun j => ss.getD j ByteArray.empty, rfl, by omega, by omega, ?_, fun j hj => ?_, fun j hj => ?_⟩
      · have := cell_lt hc0
        simpa [add_none] using this
      · have := hcell j (by omega)
        rw [add_none] at this; exact this
      · have hj' : j < ss.length := by omega
        have hmem : (.lit (.string (ss.getD j ByteArray.empty).data.toList) : DataW H) ∈ strs (ss.take len0) := by
          unfold strs
          rw [List.mem_map]
          refine ⟨ss.getD j ByteArray.empty, ?_, rfl⟩
          rw [List.getD_eq_getElem?_getD, List.getElem?_eq_getElem hj', Option.getD_some, List.mem_take_iff_getElem]
          exact ⟨j, by omega, rfl⟩
        have := hsz (ss.getD j ByteArray.empty).data.toList.length (by
          simp only [DataW.weights, ht]
          refine List.mem_cons_of_mem _ (List.mem_append_left _ (weights_all ?_ hmem))
          simp [DataW.weights])
        rw [hr] at this
        exact this
end Go.Proofs.YtgkhelbpccehcaaGreatDoor
