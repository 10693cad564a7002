/- What a slice of acts that came in is in memory. Condition: they lie within the reach. -/
import Derived.Test.YtogcfeplfclobaaChecked
import Derived.Test.YtogcfeplfclobaaOpenN
import Derived.Test.YtogcfeplfclobaaOpenB
import Derived.Test.YtogcfeplfclobaaNm
import Derived.ProofKit
import Derived.OpenShut
import Derived.SizedLaws
import Derived.Deep.Slices
import Derived.Deep.Fields
import Derived.ChangeSlices
namespace Go.Proofs.Ytogcfeplfclobaa
open Go.ChangeShapes Go.WideShapes Go.ChangeAt Go.RowKit Go.Deep
set_option maxRecDepth 100000
set_option linter.unusedVariables false
set_option linter.unusedSimpArgs false

section
variable {H : Type} {enc : TypeId × Value → H} {W : World} {base : Nat} {held : Bool} {b0 : Nat}
/-- A slice of acts that came in. -/
structure ActAt where
  kind : Int
  c : Int
  n : Int
  B : Rw
  C : Rw
def ActIs (W : World) (b o : Nat) (a : ActAt) : Prop :=
  W.cell? ⟨b, o, none⟩ = some (.int .i64 a.kind) ∧ W.cell? ⟨b, o + 1, none⟩ = some (.int .i64 a.c) ∧ W.cell? ⟨b, o + 2, none⟩ = some (.int .i64 a.n) ∧ W.cell? ⟨b, o + 3, none⟩ = some (.slice a.B.A a.B.l.length a.B.c) ∧
    W.cell? ⟨b, o + 4, none⟩ = some (.slice a.C.A a.C.l.length a.C.c) ∧ I64 a.kind ∧ I64 a.c ∧ I64 a.n ∧ Came W a.B ∧ Came W a.C
def IsActs (W : World) (v : Value) : Prop :=
  (∃ a cap, v = .slice a 0 cap) ∨
  ∃ (b off len cap : Nat) (f : Nat → ActAt), v = .slice (some ⟨b, off, none⟩) len cap ∧ 0 < len ∧ len ≤ cap ∧ cap ≤ maxLen ∧ b < W.heap.size ∧ ∀ j, j < len → ActIs W b (off + j * 5) (f j)
theorem trod_act {fuel : Nat} {cs : List Value} {x : DataW H × List MemPlace} (h : DataW.trod enc Try.prog W base (fun _ => true) held fuel 35 cs = some x) (hsz : ∀ n ∈ x.1.weights Try.prog 35, n ≤ reachBytes) :
    ∃ q : ActAt, cs = [.int .i64 q.kind, .int .i64 q.c, .int .i64 q.n, .slice q.B.A q.B.l.length q.B.c, .slice q.C.A q.C.l.length q.C.c] ∧ I64 q.kind ∧ I64 q.c ∧ I64 q.n ∧ Came W q.B ∧ Came W q.C := by
  obtain ⟨ys, n, _, hx, hl, hlen, hf⟩ := DataW.trod_struct Try.underlying35 h
  subst hx
  have hl2 : cs.length = 5 := hl.trans (by kernel_rfl)
  have hlen4 : ys.length = 5 := hlen
  match cs, hl2, ys, hlen4 with
  | [c0, c1, c2, c3, c4], _, [y0, y1, y2, y3, y4], _ =>
    have one : ∀ (c : Value) (y : DataW H × List MemPlace), DataW.trod enc Try.prog W base (fun _ => true) held n 3 [c] = some y → ∃ z, c = .int .i64 z ∧ I64 z := by
      intro c y h
      obtain ⟨z, e, _, w⟩ := DataW.trod_int Try.underlying3 h
      injection e with e
      exact ⟨z, e, i64_wf w⟩
    have wt : ∀ (j : Nat) (t : TypeId) (y : DataW H), [3, 3, 3, 33, 33][j]? = some t → [y0.1, y1.1, y2.1, y3.1, y4.1][j]? = some y → ∀ n ∈ y.weights Try.prog t, n ≤ reachBytes := by
      intro j t y ht hy n hn
      refine hsz n ?_
      simp only [DataW.weights, Try.underlying35]
      exact DataW.weights_mem_each (ts := [3, 3, 3, 33, 33]) (ds := [y0.1, y1.1, y2.1, y3.1, y4.1]) (j := j) (t := t) ht hy n hn
    obtain ⟨z0, rfl, w0⟩ := one c0 y0 (hf 0 _ rfl)
    obtain ⟨z1, rfl, w1⟩ := one c1 y1 (hf 1 _ rfl)
    obtain ⟨z2, rfl, w2⟩ := one c2 y2 (hf 2 _ rfl)
    obtain ⟨r3, rfl, w3⟩ := trod_bytes (c := c3) (x := y3) (hf 3 _ rfl) (wt 3 _ _ rfl rfl)
    obtain ⟨r4, rfl, w4⟩ := trod_bytes (c := c4) (x := y4) (hf 4 _ rfl) (wt 4 _ _ rfl rfl)
    exact ⟨⟨z0, z1, z2, r3, r4⟩, rfl, w0, w1, w2, w3, w4⟩
theorem open_acts {v : Value} {d : DataW H} {p : List MemPlace} (hv : Value.okWide Try.prog W .any b0 22 v) (h : DataW.Trod enc Try.prog W base (fun _ => true) held 22 v d p) (hsz : ∀ n ∈ d.weights Try.prog 22, n ≤ reachBytes) : IsActs W v := by
  obtain ⟨a0, len0, cap0, rfl⟩ := okWide_slice Try.underlying22 hv
  obtain ⟨fuel, hf⟩ := h
  rcases open_slice Try.underlying22 hf with ⟨hcs, _⟩ | ⟨x, l, c, m, n, D, Pl, hcs, _, hl, hm, hmm, hx, hi⟩
  · simp [Value.cells] at hcs
    obtain ⟨rfl, rfl, rfl⟩ := hcs
    exact Or.inl ⟨_, _, rfl⟩
  · simp [Value.cells] at hcs
    obtain ⟨rfl, rfl, rfl⟩ := hcs
    by_cases h0 : len0 = 0
    · subst h0; exact Or.inl ⟨_, _, rfl⟩
    · right
      have hmz : len0 ≤ m := by rw [hmm]; split <;> omega
      have hC : Try.prog.cellsOf 35 = 5 := by kernel_rfl
      rw [hC] at hi
      simp only [Prod.mk.injEq] at hx
      obtain ⟨hd, _⟩ := hx
      have each : ∀ i, i < len0 → ∃ q : ActAt, W.cell? ((x.add (i * 5)).add 0) = some (.int .i64 q.kind) ∧ W.cell? ((x.add (i * 5)).add 1) = some (.int .i64 q.c) ∧ W.cell? ((x.add (i * 5)).add 2) = some (.int .i64 q.n) ∧ W.cell? ((x.add (i * 5)).add 3) = some (.slice q.B.A q.B.l.length q.B.c) ∧
          W.cell? ((x.add (i * 5)).add 4) = some (.slice q.C.A q.C.l.length q.C.c) ∧ I64 q.kind ∧ I64 q.c ∧ I64 q.n ∧ Came W q.B ∧ Came W q.C := by
        intro i him
        obtain ⟨cs', hc, ht⟩ := hi i (by omega)
        obtain ⟨q, rfl, w⟩ := trod_act ht (fun n hn => by
          refine hsz n ?_
          rw [hd]
          simp only [DataW.weights, Try.underlying22]
          exact List.mem_cons_of_mem _ (List.mem_append_left _ (weights_all hn (List.mem_map.2 ⟨i, List.mem_range.2 him, rfl⟩))))
        obtain ⟨_, hcl, hat⟩ := World.cells?_some hc
        exact ⟨q, hat 0 (by decide), hat 1 (by decide), hat 2 (by decide), hat 3 (by decide), hat 4 (by decide), w⟩
      obtain ⟨b, off, spot⟩ := x
      obtain ⟨q0, hc0, _⟩ := each 0 (by omega)
      have hspot : spot = none := by simpa [Addr.add] using World.cell?_spot hc0
      subst hspot
      have hb : b < W.heap.size := by
        have := World.block_lt_of_cell? W _ hc0
        simpa [addr_add] using this
      simp only [addr_add, Nat.add_zero] at each
      refine ⟨b, off, len0, cap0, fun j => if h : j < len0 then Classical.choose (each j h) else q0, rfl, by omega, hl, hm, hb, fun j hj => ?_⟩
      simp only [dif_pos hj]
      exact Classical.choose_spec (each j hj)
end
end Go.Proofs.Ytogcfeplfclobaa
