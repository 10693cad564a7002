/- What bytes, a slice of numbers, a slice of acts that came in are in memory. Condition: they lie within the reach. -/
import Derived.Test.YtfgllfgcgihkoaaChecked
import Derived.Test.YtfgllfgcgihkoaaRingK
import Derived.ProofKit
import Derived.OpenShut
import Derived.SizedLaws
import Derived.Deep.Slices
import Derived.Deep.Fields
import Derived.ChangeSlices
namespace Go.Proofs.Ytfgllfgcgihkoaa
open Go.ChangeShapes Go.WideShapes Go.ChangeAt Go.RowKit Go.Deep
set_option linter.unusedVariables false
set_option linter.unusedSimpArgs false

def I64 (n : Int) : Prop := -9223372036854775808 ≤ n ∧ n ≤ 9223372036854775807
theorem i64_wf {n : Int} (h : (Lit.int .i64 n).wf = true) : I64 n := by simpa [I64, Lit.wf, IntKind.min, IntKind.max, IntKind.signed, IntKind.bits] using h
theorem u8_wf {n : Int} (h : (Lit.int .u8 n).wf = true) : 0 ≤ n ∧ n ≤ 255 := by simpa [Lit.wf, IntKind.min, IntKind.max, IntKind.signed, IntKind.bits] using h
theorem addr_add (b off j : Nat) : (⟨b, off, none⟩ : Addr).add j = ⟨b, off + j, none⟩ := by
  unfold Addr.add; split <;> simp_all
/-- Bytes that came in, within the reach. -/
def Came (W : World) (r : Rw) : Prop := At W [] r.A r.l ∧ r.l.length ≤ r.c ∧ r.c ≤ 140737488351232
theorem Came.ok {W : World} {r : Rw} (h : Came W r) {F : List Nat} (hF : ∀ k ∈ F, W.heap.size ≤ k) : r.Ok W F :=
  ⟨h.1.sub fun k hk => .inr (hF k hk), h.2.1, by unfold maxLen; have := h.2.2; omega⟩
theorem weights_all {H : Type} {P : Program} {e : TypeId} {d : DataW H} {n : Nat} (hn : n ∈ d.weights P e) : ∀ {l : List (DataW H)}, d ∈ l → n ∈ DataW.weightsAll P e l
  | x :: r, h => by
    rw [List.mem_cons] at h
    simp only [DataW.weightsAll, List.mem_append]
    rcases h with rfl | h
    · exact Or.inl hn
    · exact Or.inr (weights_all hn h)
section
variable {H : Type} {enc : TypeId × Value → H} {W : World} {base : Nat} {held : Bool} {b0 : Nat}
theorem trod_bytes {fuel : Nat} {c : Value} {x : DataW H × List MemPlace} (h : DataW.trod enc Try.prog W base (fun _ => true) held fuel 32 [c] = some x) (hsz : ∀ n ∈ x.1.weights Try.prog 32, n ≤ reachBytes) :
    ∃ r : Rw, c = .slice r.A r.l.length r.c ∧ Came W r := by
  rcases open_ints Try.underlying32 Try.underlying5 (by kernel_rfl) h with ⟨hcs, _⟩ | ⟨x, l, cp, zs, hcs, _, hl, hm, hz, hx, hcell, hws⟩
  · injection hcs with hcs
    subst hcs
    exact ⟨⟨none, [], 0⟩, rfl, At.nil _ _ _, Nat.le_refl _, by show 0 ≤ _; omega⟩
  · injection hcs with hcs
    subst hcs
    have hz' : zs.length = cp := by simpa using hz
    have hcp : cp ≤ reachBytes := by
      have hb : Try.prog.bytesOf 5 = 1 := by kernel_rfl
      have := hsz _ (by rw [hx]; simp only [DataW.weights, Try.underlying32]; exact List.mem_cons_self)
      simp only [lits, List.length_map, List.length_take, List.length_drop, hb] at this
      omega
    have hlen : (zs.take l).length = l := by rw [List.length_take]; omega
    refine ⟨⟨some x, zs.take l, cp⟩, by rw [hlen], ?_, by show (zs.take l).length ≤ cp; omega, by show cp ≤ _; have hr : reachBytes = 140737488351232 := rfl; omega⟩
    intro i y hy
    rw [List.getElem?_take] at hy
    split at hy
    case isFalse => cases hy
    case isTrue hi =>
      have hi2 : i < zs.length := by omega
      have hc := hcell i hi2
      rw [List.getD_eq_getElem?_getD, hy] at hc
      obtain ⟨b, off, spot⟩ := x
      have hspot : spot = none := by simpa [Addr.add] using World.cell?_spot (hcell 0 (by omega))
      subst hspot
      rw [addr_add] at hc
      exact ⟨b, off, rfl, World.block_lt_of_cell? W _ hc, by simp, hc, u8_wf (hws _ (List.mem_of_getElem? hy))⟩
theorem open_bytes {v : Value} {d : DataW H} {p : List MemPlace} (hv : Value.okWide Try.prog W .any b0 32 v) (h : DataW.Trod enc Try.prog W base (fun _ => true) held 32 v d p) (hsz : ∀ n ∈ d.weights Try.prog 32, n ≤ reachBytes) :
    ∃ r : Rw, v = .slice r.A r.l.length r.c ∧ Came W r := by
  obtain ⟨a0, len0, cap0, rfl⟩ := okWide_slice Try.underlying32 hv
  obtain ⟨fuel, hf⟩ := h
  exact trod_bytes hf hsz
/-- A slice of numbers that came in. -/
def IsInts (W : World) (v : Value) : Prop :=
  (∃ a cap, v = .slice a 0 cap) ∨
  ∃ (b off len cap : Nat) (f : Nat → Int), v = .slice (some ⟨b, off, none⟩) len cap ∧ 0 < len ∧ len ≤ cap ∧ cap ≤ maxLen ∧ b < W.heap.size ∧ ∀ j, j < len → W.cell? ⟨b, off + j, none⟩ = some (.int .i64 (f j)) ∧ I64 (f j)
theorem open_nums {sp : Nat → Bool} {v : Value} {d : DataW H} {p : List MemPlace} (hv : Value.okWide Try.prog W .any b0 46 v) (h : DataW.Trod enc Try.prog W base sp held 46 v d p) : IsInts W v := by
  obtain ⟨a0, len0, cap0, rfl⟩ := okWide_slice Try.underlying46 hv
  obtain ⟨fuel, hf⟩ := h
  rcases open_ints Try.underlying46 Try.underlying3 (by kernel_rfl) hf with ⟨hcs, _⟩ | ⟨x, l, c, zs, hcs, _, hl, hm, hz, hx, hcell, hws⟩
  · simp [Value.cells] at hcs
    obtain ⟨rfl, rfl, rfl⟩ := hcs
    exact Or.inl ⟨_, _, rfl⟩
  · simp [Value.cells] at hcs
    obtain ⟨rfl, rfl, rfl⟩ := hcs
    by_cases h0 : len0 = 0
    · subst h0; exact Or.inl ⟨_, _, rfl⟩
    · right
      have hz' : len0 ≤ zs.length := by rw [hz]; split <;> omega
      obtain ⟨b, off, spot⟩ := x
      have hc0 := hcell 0 (by omega)
      have hspot : spot = none := by simpa [Addr.add] using World.cell?_spot hc0
      subst hspot
      refine ⟨b, off, len0, cap0, fun j => zs.getD j 0, rfl, by omega, hl, hm, ?_, fun j hj => ⟨?_, ?_⟩⟩
      · have := World.block_lt_of_cell? W _ hc0
        simpa [addr_add] using this
      · have := hcell j (by omega)
        rw [addr_add] at this; exact this
      · refine i64_wf (hws _ ?_)
        show zs.getD j 0 ∈ zs
        rw [List.getD_eq_getElem?_getD, List.getElem?_eq_getElem (by omega)]
        exact List.getElem_mem _
/-- A slice of acts that came in. -/
structure ActAt where
  kind : Int
  n : Int
  B : Rw
  C : Rw
def ActIs (W : World) (b o : Nat) (a : ActAt) : Prop :=
  W.cell? ⟨b, o, none⟩ = some (.int .i64 a.kind) ∧ W.cell? ⟨b, o + 1, none⟩ = some (.int .i64 a.n) ∧ W.cell? ⟨b, o + 2, none⟩ = some (.slice a.B.A a.B.l.length a.B.c) ∧
    W.cell? ⟨b, o + 3, none⟩ = some (.slice a.C.A a.C.l.length a.C.c) ∧ I64 a.kind ∧ I64 a.n ∧ Came W a.B ∧ Came W a.C
def IsActs (W : World) (v : Value) : Prop :=
  (∃ a cap, v = .slice a 0 cap) ∨
  ∃ (b off len cap : Nat) (f : Nat → ActAt), v = .slice (some ⟨b, off, none⟩) len cap ∧ 0 < len ∧ len ≤ cap ∧ cap ≤ maxLen ∧ b < W.heap.size ∧ ∀ j, j < len → ActIs W b (off + j * 4) (f j)
theorem trod_act {fuel : Nat} {cs : List Value} {x : DataW H × List MemPlace} (h : DataW.trod enc Try.prog W base (fun _ => true) held fuel 34 cs = some x) (hsz : ∀ n ∈ x.1.weights Try.prog 34, n ≤ reachBytes) :
    ∃ q : ActAt, cs = [.int .i64 q.kind, .int .i64 q.n, .slice q.B.A q.B.l.length q.B.c, .slice q.C.A q.C.l.length q.C.c] ∧ I64 q.kind ∧ I64 q.n ∧ Came W q.B ∧ Came W q.C := by
  obtain ⟨ys, n, _, hx, hl, hlen, hf⟩ := DataW.trod_struct Try.underlying34 h
  subst hx
  have hl2 : cs.length = 4 := hl.trans (by kernel_rfl)
  have hlen4 : ys.length = 4 := hlen
  match cs, hl2, ys, hlen4 with
  | [c0, c1, c2, c3], _, [y0, y1, y2, y3], _ =>
    have one : ∀ (c : Value) (y : DataW H × List MemPlace), DataW.trod enc Try.prog W base (fun _ => true) held n 3 [c] = some y → ∃ z, c = .int .i64 z ∧ I64 z := by
      intro c y h
      obtain ⟨z, e, _, w⟩ := DataW.trod_int Try.underlying3 h
      injection e with e
      exact ⟨z, e, i64_wf w⟩
    have wt : ∀ (j : Nat) (t : TypeId) (y : DataW H), [3, 3, 32, 32][j]? = some t → [y0.1, y1.1, y2.1, y3.1][j]? = some y → ∀ n ∈ y.weights Try.prog t, n ≤ reachBytes := by
      intro j t y ht hy n hn
      refine hsz n ?_
      simp only [DataW.weights, Try.underlying34]
      exact DataW.weights_mem_each (ts := [3, 3, 32, 32]) (ds := [y0.1, y1.1, y2.1, y3.1]) (j := j) (t := t) ht hy n hn
    obtain ⟨z0, rfl, w0⟩ := one c0 y0 (hf 0 _ rfl)
    obtain ⟨z1, rfl, w1⟩ := one c1 y1 (hf 1 _ rfl)
    obtain ⟨r2, rfl, w2⟩ := trod_bytes (c := c2) (x := y2) (hf 2 _ rfl) (wt 2 _ _ rfl rfl)
    obtain ⟨r3, rfl, w3⟩ := trod_bytes (c := c3) (x := y3) (hf 3 _ rfl) (wt 3 _ _ rfl rfl)
    exact ⟨⟨z0, z1, r2, r3⟩, rfl, w0, w1, w2, w3⟩
theorem open_acts {v : Value} {d : DataW H} {p : List MemPlace} (hv : Value.okWide Try.prog W .any b0 22 v) (h : DataW.Trod enc Try.prog W base (fun _ => true) held 22 v d p) (hsz : ∀ n ∈ d.weights Try.prog 22, n ≤ reachBytes) : IsActs W v := by
  obtain ⟨a0, len0, cap0, rfl⟩ := okWide_slice Try.underlying22 hv
  obtain ⟨fuel, hf⟩ := h
  rcases open_slice Try.underlying22 hf with ⟨hcs, _⟩ | ⟨x, l, c, m, n, D, Pl, hcs, _, hl, hm, hmm, hx, hi⟩
  · simp [Value.cells] at hcs
    obtain ⟨rfl, rfl, rfl⟩ := hcs
    exact Or.inl ⟨_, _, rfl⟩
  · simp [Value.cells] at hcs
    obtain ⟨rfl, rfl, rfl⟩ := hcs
    by_cases h0 : len0 = 0
    · subst h0; exact Or.inl ⟨_, _, rfl⟩
    · right
      have hmz : len0 ≤ m := by rw [hmm]; split <;> omega
      have hC : Try.prog.cellsOf 34 = 4 := by kernel_rfl
      rw [hC] at hi
      simp only [Prod.mk.injEq] at hx
      obtain ⟨hd, _⟩ := hx
      have each : ∀ i, i < len0 → ∃ q : ActAt, W.cell? ((x.add (i * 4)).add 0) = some (.int .i64 q.kind) ∧ W.cell? ((x.add (i * 4)).add 1) = some (.int .i64 q.n) ∧ W.cell? ((x.add (i * 4)).add 2) = some (.slice q.B.A q.B.l.length q.B.c) ∧
          W.cell? ((x.add (i * 4)).add 3) = some (.slice q.C.A q.C.l.length q.C.c) ∧ I64 q.kind ∧ I64 q.n ∧ Came W q.B ∧ Came W q.C := by
        intro i him
        obtain ⟨cs', hc, ht⟩ := hi i (by omega)
        obtain ⟨q, rfl, w⟩ := trod_act ht (fun n hn => by
          refine hsz n ?_
          rw [hd]
          simp only [DataW.weights, Try.underlying22]
          exact List.mem_cons_of_mem _ (List.mem_append_left _ (weights_all hn (List.mem_map.2 ⟨i, List.mem_range.2 him, rfl⟩))))
        obtain ⟨_, hcl, hat⟩ := World.cells?_some hc
        exact ⟨q, hat 0 (by decide), hat 1 (by decide), hat 2 (by decide), hat 3 (by decide), w⟩
      obtain ⟨b, off, spot⟩ := x
      obtain ⟨q0, hc0, _⟩ := each 0 (by omega)
      have hspot : spot = none := by simpa [Addr.add] using World.cell?_spot hc0
      subst hspot
      have hb : b < W.heap.size := by
        have := World.block_lt_of_cell? W _ hc0
        simpa [addr_add] using this
      simp only [addr_add, Nat.add_zero] at each
      refine ⟨b, off, len0, cap0, fun j => if h : j < len0 then Classical.choose (each j h) else q0, rfl, by omega, hl, hm, hb, fun j hj => ?_⟩
      simp only [dif_pos hj]
      exact Classical.choose_spec (each j hj)
end
end Go.Proofs.Ytfgllfgcgihkoaa
