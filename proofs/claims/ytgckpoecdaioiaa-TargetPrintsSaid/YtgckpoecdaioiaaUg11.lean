/- A target that came in. Conditions: it lies within the reach. -/
import Derived.Test.YtgckpoecdaioiaaChecked
import Derived.Test.YtgckpoecdaioiaaTj11
import Derived.WalkKit
import Derived.ProofKit
import Derived.OpenShut
import Derived.SizedLaws
import Derived.ChangeArms
import Derived.Deep.Slices
import Derived.Deep.Fields
import Derived.ChangeSlices
namespace Go.Proofs.Ytgckpoecdaioiaa
open Go.ChangeShapes Go.WideShapes Go.ChangeAt Go.RowKit Go.Deep
set_option maxRecDepth 100000
set_option linter.unusedVariables false
set_option linter.unusedSimpArgs false

section
variable {H : Type} {enc : TypeId × Value → H} {W : World} {base : Nat} {held : Bool} {b0 : Nat}
theorem trod_tgt {fuel : Nat} {cs : List Value} {x : DataW H × List MemPlace} (h : DataW.trod enc Try.prog W base (fun _ => true) held fuel 23 cs = some x) (hsz : ∀ n ∈ x.1.weights Try.prog 23, n ≤ reachBytes) :
    ∃ (f : Int) (a p q : ByteArray), cs = [.int .i64 f, .string a, .string p, .string q] ∧ a.size ≤ 140737488351232 ∧ p.size ≤ 140737488351232 ∧ q.size ≤ 140737488351232 := by
  obtain ⟨ys, n, _, hx, hl, hlen, hf⟩ := DataW.trod_struct Try.underlying23 h
  subst hx
  have hl2 : cs.length = 4 := hl.trans (by kernel_rfl)
  have hlen4 : ys.length = 4 := hlen
  match cs, hl2, ys, hlen4 with
  | [c0, c1, c2, c3], _, [y0, y1, y2, y3], _ =>
    have wt : ∀ (j : Nat) (t : TypeId) (y : DataW H), [3, 9, 9, 9][j]? = some t → [y0.1, y1.1, y2.1, y3.1][j]? = some y → ∀ n ∈ y.weights Try.prog t, n ≤ reachBytes := by
      intro j t y ht hy n hn
      refine hsz n ?_
      simp only [DataW.weights, Try.underlying23]
      exact DataW.weights_mem_each (ts := [3, 9, 9, 9]) (ds := [y0.1, y1.1, y2.1, y3.1]) (j := j) (t := t) ht hy n hn
    have one : ∀ (c : Value) (y : DataW H × List MemPlace), DataW.trod enc Try.prog W base (fun _ => true) held n 9 [c] = some y → (∀ n ∈ y.1.weights Try.prog 9, n ≤ reachBytes) → ∃ s : ByteArray, c = .string s ∧ s.size ≤ 140737488351232 := by
      intro c y h hw
      obtain ⟨s, e, hy, _⟩ := DataW.trod_string Try.underlying9 h
      injection e with e
      refine ⟨s, e, ?_⟩
      have := hw s.data.toList.length (by rw [hy]; simp [DataW.weights])
      exact this
    obtain ⟨f, e0, _, _⟩ := DataW.trod_int Try.underlying3 (show DataW.trod enc Try.prog W base (fun _ => true) held n 3 [c0] = some y0 from hf 0 _ rfl)
    injection e0 with e0
    subst e0
    obtain ⟨s1, rfl, w1⟩ := one c1 y1 (hf 1 _ rfl) (wt 1 _ _ rfl rfl)
    obtain ⟨s2, rfl, w2⟩ := one c2 y2 (hf 2 _ rfl) (wt 2 _ _ rfl rfl)
    obtain ⟨s3, rfl, w3⟩ := one c3 y3 (hf 3 _ rfl) (wt 3 _ _ rfl rfl)
    exact ⟨f, s1, s2, s3, rfl, w1, w2, w3⟩
theorem open_target {v : Value} {d : DataW H} {p : List MemPlace} (hv : Value.okWide Try.prog W .any b0 23 v) (h : DataW.Trod enc Try.prog W base (fun _ => true) held 23 v d p) (hsz : ∀ n ∈ d.weights Try.prog 23, n ≤ reachBytes) :
    ∃ (f : Int) (a p q : ByteArray), v = .agg #[.int .i64 f, .string a, .string p, .string q] ∧ (a.size ≤ 140737488351232 ∧ p.size ≤ 140737488351232 ∧ q.size ≤ 140737488351232) := by
  obtain ⟨cs, rfl, hlen⟩ := okWide_struct Try.underlying23 hv
  obtain ⟨fuel, hf⟩ := h
  obtain ⟨f, a, p, q, e, hs⟩ := trod_tgt hf hsz
  obtain ⟨l⟩ := cs
  refine ⟨f, a, p, q, ?_, hs⟩
  have e' : l = [.int .i64 f, .string a, .string p, .string q] := by simpa [Value.cells] using e
  rw [e']
end
end Go.Proofs.Ytgckpoecdaioiaa
