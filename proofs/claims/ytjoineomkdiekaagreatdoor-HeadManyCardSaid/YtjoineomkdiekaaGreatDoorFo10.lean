/- What fields and acts of chapter 10's laws are in memory when they came in. -/
import Derived.Test.YtjoineomkdiekaaGreatDoorChecked
import Derived.Test.YtjoineomkdiekaaGreatDoorFa10
import Derived.Test.YtjoineomkdiekaaGreatDoorOpen
import Derived.ProofKit
import Derived.OpenShut
import Derived.ChangeArms
import Derived.Deep.Slices
import Derived.Deep.Fields
import Derived.ChangeSlices
namespace Go.Proofs.YtjoineomkdiekaaGreatDoor
open Go.ChangeShapes Go.WideShapes Go.ChangeAt Go.RowKit Go.Deep
set_option maxRecDepth 100000
set_option linter.unusedVariables false
set_option linter.unusedSimpArgs false

/-- A slice of fields that came in. -/
structure FRow where
  A : Option Addr
  C : Nat
  l : List FV
abbrev FRow.v (r : FRow) : Value := .slice r.A r.l.length r.C
def BigF (l : List FV) : Prop := ∀ p ∈ l, p.1.size ≤ 140737488351232 ∧ p.2.size ≤ 140737488351232
structure FRow.Ok (W : World) (r : FRow) : Prop where
  fs : FsAt W r.v r.l
  big : BigF r.l
  len : r.l.length ≤ 140737488351232
  cap : r.l.length ≤ r.C
  capm : r.C ≤ maxLen
/-- An act that came in. -/
structure Act10 where
  kind : Int
  name : ByteArray
  other : ByteArray
  row : FRow
def Act10Is (W : World) (b o : Nat) (a : Act10) : Prop :=
  W.cell? ⟨b, o, none⟩ = some (.int .i64 a.kind) ∧ W.cell? ⟨b, o + 1, none⟩ = some (.string a.name) ∧ W.cell? ⟨b, o + 2, none⟩ = some (.string a.other) ∧ W.cell? ⟨b, o + 3, none⟩ = some a.row.v ∧
    -9223372036854775808 ≤ a.kind ∧ a.kind ≤ 9223372036854775807 ∧ a.name.size ≤ 140737488351232 ∧ a.other.size ≤ 140737488351232 ∧ a.row.Ok W
/-- Acts lie behind a slice. -/
def ActsAt (W : World) (v : Value) (l : List Act10) : Prop :=
  ∃ A C, v = .slice A l.length C ∧ l.length ≤ 9223372036854775807 ∧ ∀ j (h : j < l.length), ∃ b off, A = some ⟨b, off, none⟩ ∧ b < W.heap.size ∧ Act10Is W b (off + j * 4) l[j]
section
variable {H : Type} {enc : TypeId × Value → H} {W : World} {base : Nat} {held : Bool} {b0 : Nat}
theorem wf_range {n : Int} (h : (Lit.int .i64 n).wf = true) : -9223372036854775808 ≤ n ∧ n ≤ 9223372036854775807 := by simpa [Lit.wf, IntKind.min, IntKind.max, IntKind.signed, IntKind.bits] using h
theorem trod_fld {fuel : Nat} {cs : List Value} {x : DataW H × List MemPlace} (h : DataW.trod enc Tryz.prog W base (fun _ => true) held fuel 49 cs = some x) (hsz : ∀ n ∈ x.1.weights Tryz.prog 49, n ≤ reachBytes) :
    ∃ p : FV, cs = [.string p.1, .string p.2] ∧ p.1.size ≤ 140737488351232 ∧ p.2.size ≤ 140737488351232 := by
  obtain ⟨ys, n, _, hx, hl, hlen, hf⟩ := DataW.trod_struct Tryz.underlying49 h
  subst hx
  have hl2 : cs.length = 2 := hl.trans (by kernel_rfl)
  have hlen4 : ys.length = 2 := hlen
  match cs, hl2, ys, hlen4 with
  | [c0, c1], _, [y0, y1], _ =>
    have wt : ∀ (j : Nat) (t : TypeId) (y : DataW H), [9, 9][j]? = some t → [y0.1, y1.1][j]? = some y → ∀ n ∈ y.weights Tryz.prog t, n ≤ reachBytes := by
      intro j t y ht hy n hn
      refine hsz n ?_
      simp only [DataW.weights, Tryz.underlying49]
      exact DataW.weights_mem_each (ts := [9, 9]) (ds := [y0.1, y1.1]) (j := j) (t := t) ht hy n hn
    have one : ∀ (c : Value) (y : DataW H × List MemPlace), DataW.trod enc Tryz.prog W base (fun _ => true) held n 9 [c] = some y → (∀ n ∈ y.1.weights Tryz.prog 9, n ≤ reachBytes) → ∃ s : ByteArray, c = .string s ∧ s.size ≤ 140737488351232 := by
      intro c y h hw
      obtain ⟨s, e, hy, _⟩ := DataW.trod_string Tryz.underlying9 h
      injection e with e
      refine ⟨s, e, ?_⟩
      have := hw s.data.toList.length (by rw [hy]; simp [DataW.weights])
      exact this
    obtain ⟨s0, rfl, w0⟩ := one c0 y0 (hf 0 _ rfl) (wt 0 _ _ rfl rfl)
    obtain ⟨s1, rfl, w1⟩ := one c1 y1 (hf 1 _ rfl) (wt 1 _ _ rfl rfl)
    exact ⟨(s0, s1), rfl, w0, w1⟩
theorem trod_fs {fuel : Nat} {c : Value} {x : DataW H × List MemPlace} (h : DataW.trod enc Tryz.prog W base (fun _ => true) held fuel 29 [c] = some x) (hsz : ∀ n ∈ x.1.weights Tryz.prog 29, n ≤ reachBytes) :
    ∃ r : FRow, c = r.v ∧ r.Ok W := by
  have hrb : reachBytes = 140737488351232 := rfl
  rcases open_slice Tryz.underlying29 h with ⟨hcs, _⟩ | ⟨x, l, c, m, n, D, Pl, hcs, _, hl, hm, hmm, hx, hi⟩
  · injection hcs with hcs
    subst hcs
    exact ⟨⟨none, 0, []⟩, rfl, .inl ⟨rfl, none, 0, rfl⟩, (fun p hp => nomatch hp), by simp, Nat.le_refl _, by show 0 ≤ maxLen; unfold maxLen; omega⟩
  · injection hcs with hcs
    subst hcs
    have hmz : l ≤ m := by rw [hmm]; split <;> omega
    have hC : Tryz.prog.cellsOf 49 = 2 := by kernel_rfl
    have hB : Tryz.prog.bytesOf 49 = 32 := by kernel_rfl
    rw [hC] at hi
    subst hx
    have hlen : l ≤ 140737488351232 := by
      have := hsz _ (by simp only [DataW.weights, Tryz.underlying29]; exact List.mem_cons_self)
      simp only [List.length_map, List.length_range, hB] at this
      omega
    by_cases h0 : l = 0
    · subst h0
      exact ⟨⟨some x, c, []⟩, rfl, .inl ⟨rfl, some x, c, rfl⟩, (fun p hp => nomatch hp), by simp, Nat.zero_le _, hm⟩
    have each : ∀ i, i < l → ∃ p : FV, W.cell? ((x.add (i * 2)).add 0) = some (.string p.1) ∧ W.cell? ((x.add (i * 2)).add 1) = some (.string p.2) ∧ p.1.size ≤ 140737488351232 ∧ p.2.size ≤ 140737488351232 := by
      intro i him
      obtain ⟨cs', hc, ht⟩ := hi i (by omega)
      obtain ⟨p, rfl, w⟩ := trod_fld ht (fun n hn => by
        refine hsz n ?_
        simp only [DataW.weights, Tryz.underlying29]
        exact List.mem_cons_of_mem _ (List.mem_append_left _ (weights_all hn (List.mem_map.2 ⟨i, List.mem_range.2 him, rfl⟩))))
      obtain ⟨_, hcl, hat⟩ := World.cells?_some hc
      exact ⟨p, hat 0 (by decide), hat 1 (by decide), w⟩
    obtain ⟨b, off, spot⟩ := x
    obtain ⟨q0, hc0, _⟩ := each 0 (by omega)
    have hspot : spot = none := by simpa [Addr.add] using World.cell?_spot hc0
    subst hspot
    have hb : b < W.heap.size := by
      have := World.block_lt_of_cell? W _ hc0
      simpa [add_none] using this
    simp only [add_none, Nat.add_zero] at each
    let f : Nat → FV := fun j => if h : j < l then Classical.choose (each j h) else q0
    have hf : ∀ j, j < l → W.cell? ⟨b, off + j * 2, none⟩ = some (.string (f j).1) ∧ W.cell? ⟨b, off + j * 2 + 1, none⟩ = some (.string (f j).2) ∧ (f j).1.size ≤ 140737488351232 ∧ (f j).2.size ≤ 140737488351232 := by
      intro j hj
      simp only [f, dif_pos hj]
      exact Classical.choose_spec (each j hj)
    have hll : ((List.range l).map f).length = l := by simp
    refine ⟨⟨some ⟨b, off, none⟩, c, (List.range l).map f⟩, by show _ = Value.slice _ ((List.range l).map f).length _; rw [hll], .inr ⟨b, off, c, by show Value.slice _ ((List.range l).map f).length _ = _; rfl, by show 0 < ((List.range l).map f).length; omega, hb, fun j hj => ?_⟩, fun p hp => ?_, by show ((List.range l).map f).length ≤ _; omega, by show ((List.range l).map f).length ≤ c; omega, hm⟩
    · have hj2 : j < l := by rw [← hll]; exact hj
      have := hf j hj2
      show W.cell? _ = some (.string ((List.range l).map f)[j].1) ∧ W.cell? _ = some (.string ((List.range l).map f)[j].2)
      simp only [List.getElem_map, List.getElem_range]
      exact ⟨this.1, this.2.1⟩
    · obtain ⟨j, hj, rfl⟩ := List.mem_map.1 hp
      exact (hf j (List.mem_range.1 hj)).2.2
theorem open_fs {v : Value} {d : DataW H} {p : List MemPlace} (hv : Value.okWide Tryz.prog W .any b0 29 v) (h : DataW.Trod enc Tryz.prog W base (fun _ => true) held 29 v d p) (hsz : ∀ n ∈ d.weights Tryz.prog 29, n ≤ reachBytes) : ∃ r : FRow, v = r.v ∧ r.Ok W := by
  obtain ⟨a0, len0, cap0, rfl⟩ := okWide_slice Tryz.underlying29 hv
  obtain ⟨fuel, hf⟩ := h
  exact trod_fs (c := .slice a0 len0 cap0) hf hsz
end
end Go.Proofs.YtjoineomkdiekaaGreatDoor
