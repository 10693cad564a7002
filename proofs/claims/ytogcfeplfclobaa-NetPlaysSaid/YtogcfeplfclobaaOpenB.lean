/- What bytes that came in are in memory. Condition: they lie within the reach. -/
import Derived.Test.YtogcfeplfclobaaChecked
import Derived.Test.YtogcfeplfclobaaRows2
import Derived.Test.YtogcfeplfclobaaOpenN
import Derived.ProofKit
import Derived.OpenShut
import Derived.SizedLaws
import Derived.Deep.Slices
import Derived.Deep.Fields
import Derived.ChangeSlices
namespace Go.Proofs.Ytogcfeplfclobaa
open Go.ChangeShapes Go.WideShapes Go.ChangeAt Go.RowKit Go.Deep
set_option maxRecDepth 10000
set_option linter.unusedVariables false
set_option linter.unusedSimpArgs false

/-- Bytes that came in, within the reach. -/
def Came (W : World) (r : Rw) : Prop := At W [] r.A r.l ∧ r.l.length ≤ r.c ∧ r.c ≤ 140737488351232
theorem Came.ok {W : World} {r : Rw} (h : Came W r) {F : List Nat} (hF : ∀ k ∈ F, W.heap.size ≤ k) : r.Ok W F :=
  ⟨h.1.sub fun k hk => .inr (hF k hk), h.2.1, by unfold maxLen; have := h.2.2; omega⟩
theorem weights_all {H : Type} {P : Program} {e : TypeId} {d : DataW H} {n : Nat} (hn : n ∈ d.weights P e) : ∀ {l : List (DataW H)}, d ∈ l → n ∈ DataW.weightsAll P e l
  | x :: r, h => by
    rw [List.mem_cons] at h
    simp only [DataW.weightsAll, List.mem_append]
    rcases h with rfl | h
    · exact Or.inl hn
    · exact Or.inr (weights_all hn h)
section
variable {H : Type} {enc : TypeId × Value → H} {W : World} {base : Nat} {held : Bool} {b0 : Nat}
theorem trod_bytes {fuel : Nat} {c : Value} {x : DataW H × List MemPlace} (h : DataW.trod enc Try.prog W base (fun _ => true) held fuel 33 [c] = some x) (hsz : ∀ n ∈ x.1.weights Try.prog 33, n ≤ reachBytes) :
    ∃ r : Rw, c = .slice r.A r.l.length r.c ∧ Came W r := by
  rcases open_ints Try.underlying33 Try.underlying5 (by kernel_rfl) h with ⟨hcs, _⟩ | ⟨x, l, cp, zs, hcs, _, hl, hm, hz, hx, hcell, hws⟩
  · injection hcs with hcs
    subst hcs
    exact ⟨⟨none, [], 0⟩, rfl, At.nil _ _ _, Nat.le_refl _, by show 0 ≤ _; omega⟩
  · injection hcs with hcs
    subst hcs
    have hz' : zs.length = cp := by simpa using hz
    have hcp : cp ≤ reachBytes := by
      have hb : Try.prog.bytesOf 5 = 1 := by kernel_rfl
      have := hsz _ (by rw [hx]; simp only [DataW.weights, Try.underlying33]; exact List.mem_cons_self)
      simp only [lits, List.length_map, List.length_take, List.length_drop, hb] at this
      omega
    have hlen : (zs.take l).length = l := by rw [List.length_take]; omega
    refine ⟨⟨some x, zs.take l, cp⟩, by rw [hlen], ?_, by show (zs.take l).length ≤ cp; omega, by show cp ≤ _; have hr : reachBytes = 140737488351232 := rfl; omega⟩
    intro i y hy
    rw [List.getElem?_take] at hy
    split at hy
    case isFalse => cases hy
    case isTrue hi =>
      have hi2 : i < zs.length := by omega
      have hc := hcell i hi2
      rw [List.getD_eq_getElem?_getD, hy] at hc
      obtain ⟨b, off, spot⟩ := x
      have hspot : spot = none := by simpa [Addr.add] using World.cell?_spot (hcell 0 (by omega))
      subst hspot
      rw [addr_add] at hc
      exact ⟨b, off, rfl, World.block_lt_of_cell? W _ hc, by simp, hc, u8_wf (hws _ (List.mem_of_getElem? hy))⟩
theorem open_bytes {v : Value} {d : DataW H} {p : List MemPlace} (hv : Value.okWide Try.prog W .any b0 33 v) (h : DataW.Trod enc Try.prog W base (fun _ => true) held 33 v d p) (hsz : ∀ n ∈ d.weights Try.prog 33, n ≤ reachBytes) :
    ∃ r : Rw, v = .slice r.A r.l.length r.c ∧ Came W r := by
  obtain ⟨a0, len0, cap0, rfl⟩ := okWide_slice Try.underlying33 hv
  obtain ⟨fuel, hf⟩ := h
  exact trod_bytes hf hsz
end
end Go.Proofs.Ytogcfeplfclobaa
