/- What a handle, a slice of numbers, a slice of acts that came in are in memory. -/
import Derived.Test.YtgfmjkbelciaaaaDoorOpenH
namespace Go.Proofs.YtgfmjkbelciaaaaDoor
open Go.ChangeShapes Go.WideShapes Go.ChangeAt Go.RowKit Go.Deep
set_option linter.unusedVariables false
set_option linter.unusedSimpArgs false
set_option maxRecDepth 100000

section
variable {H : Type} {enc : TypeId × Value → H} {W : World} {base : Nat} {sp : Nat → Bool} {held : Bool} {b0 : Nat}
/-- A slice of acts that came in. -/
structure ActAt where
  kind : Int
  n : Int
  k : Int
  a : Int
  b : Int
def IsActs (W : World) (v : Value) : Prop :=
  (∃ a cap, v = .slice a 0 cap) ∨
  ∃ (b off len cap : Nat) (f : Nat → ActAt), v = .slice (some ⟨b, off, none⟩) len cap ∧ 0 < len ∧ len ≤ cap ∧ cap ≤ maxLen ∧ b < W.heap.size ∧ ∀ j, j < len →
    W.cell? ⟨b, off + j * 5, none⟩ = some (.int .i64 (f j).kind) ∧ W.cell? ⟨b, off + j * 5 + 1, none⟩ = some (.int .i64 (f j).n) ∧ W.cell? ⟨b, off + j * 5 + 2, none⟩ = some (.int .i64 (f j).k) ∧
    W.cell? ⟨b, off + j * 5 + 3, none⟩ = some (.int .i64 (f j).a) ∧ W.cell? ⟨b, off + j * 5 + 4, none⟩ = some (.int .i64 (f j).b) ∧ I64 (f j).kind ∧ I64 (f j).n ∧ I64 (f j).k ∧ I64 (f j).a ∧ I64 (f j).b
theorem trod_act {fuel : Nat} {cs : List Value} {x : DataW H × List MemPlace} (h : DataW.trod enc Tryd.prog W base sp held fuel 35 cs = some x) :
    ∃ q : ActAt, cs = [.int .i64 q.kind, .int .i64 q.n, .int .i64 q.k, .int .i64 q.a, .int .i64 q.b] ∧ I64 q.kind ∧ I64 q.n ∧ I64 q.k ∧ I64 q.a ∧ I64 q.b := by
  obtain ⟨ys, n, _, _, hl, hlen, hf⟩ := DataW.trod_struct Tryd.underlying35 h
  have hl2 : cs.length = 5 := hl.trans (by kernel_rfl)
  match cs, hl2 with
  | [c0, c1, c2, c3, c4], _ =>
    have one : ∀ (c : Value) (y : Option (DataW H × List MemPlace)), y.isSome = true → DataW.trod enc Tryd.prog W base sp held n 3 [c] = y → ∃ z, c = .int .i64 z ∧ I64 z := by
      intro c y hy h
      obtain ⟨y, rfl⟩ := Option.isSome_iff_exists.1 hy
      obtain ⟨z, e, _, w⟩ := DataW.trod_int Tryd.underlying3 h
      injection e with e
      exact ⟨z, e, i64_wf w⟩
    have some_ : ∀ i, i < 4 → (ys[i]?).isSome = true := fun i hi => by
      rw [List.getElem?_eq_getElem (by rw [hlen]; exact hi)]; rfl
    obtain ⟨z0, rfl, w0⟩ := one c0 _ (some_ 0 (by decide)) (hf 0 _ rfl)
    obtain ⟨z1, rfl, w1⟩ := one c1 _ (some_ 1 (by decide)) (hf 1 _ rfl)
    obtain ⟨z2, rfl, w2⟩ := one c2 _ (some_ 2 (by decide)) (hf 2 _ rfl)
    obtain ⟨y, hy⟩ := Option.isSome_iff_exists.1 (some_ 3 (by decide))
    have h3 : DataW.trod enc Tryd.prog W base sp held n 32 [c3, c4] = some y := (hf 3 _ rfl).trans hy
    obtain ⟨a, b, e, wa, wb⟩ := trod_hand h3
    injection e with e1 e2
    injection e2 with e2 _
    subst e1 e2
    exact ⟨⟨z0, z1, z2, a, b⟩, rfl, w0, w1, w2, wa, wb⟩
theorem open_acts {v : Value} {d : DataW H} {p : List MemPlace} (hv : Value.okWide Tryd.prog W .any b0 22 v) (h : DataW.Trod enc Tryd.prog W base sp held 22 v d p) : IsActs W v := by
  obtain ⟨a0, len0, cap0, rfl⟩ := okWide_slice Tryd.underlying22 hv
  obtain ⟨fuel, hf⟩ := h
  rcases open_slice Tryd.underlying22 hf with ⟨hcs, _⟩ | ⟨x, l, c, m, n, D, Pl, hcs, _, hl, hm, hmm, hx, hi⟩
  · simp [Value.cells] at hcs
    obtain ⟨rfl, rfl, rfl⟩ := hcs
    exact Or.inl ⟨_, _, rfl⟩
  · simp [Value.cells] at hcs
    obtain ⟨rfl, rfl, rfl⟩ := hcs
    by_cases h0 : len0 = 0
    · subst h0; exact Or.inl ⟨_, _, rfl⟩
    · right
      have hmz : len0 ≤ m := by rw [hmm]; split <;> omega
      have hC : Tryd.prog.cellsOf 35 = 5 := by kernel_rfl
      rw [hC] at hi
      have each : ∀ i, i < len0 → ∃ q : ActAt, W.cell? ((x.add (i * 5)).add 0) = some (.int .i64 q.kind) ∧ W.cell? ((x.add (i * 5)).add 1) = some (.int .i64 q.n) ∧ W.cell? ((x.add (i * 5)).add 2) = some (.int .i64 q.k) ∧
          W.cell? ((x.add (i * 5)).add 3) = some (.int .i64 q.a) ∧ W.cell? ((x.add (i * 5)).add 4) = some (.int .i64 q.b) ∧ I64 q.kind ∧ I64 q.n ∧ I64 q.k ∧ I64 q.a ∧ I64 q.b := by
        intro i him
        obtain ⟨cs', hc, ht⟩ := hi i (by omega)
        obtain ⟨q, rfl, w⟩ := trod_act ht
        obtain ⟨_, hcl, hat⟩ := World.cells?_some hc
        exact ⟨q, hat 0 (by decide), hat 1 (by decide), hat 2 (by decide), hat 3 (by decide), hat 4 (by decide), w⟩
      obtain ⟨b, off, spot⟩ := x
      obtain ⟨q0, hc0, _⟩ := each 0 (by omega)
      have hspot : spot = none := by simpa [Addr.add] using World.cell?_spot hc0
      subst hspot
      have hb : b < W.heap.size := by
        have := World.block_lt_of_cell? W _ hc0
        simpa [addr_add] using this
      simp only [addr_add, Nat.add_zero] at each
      refine ⟨b, off, len0, cap0, fun j => if h : j < len0 then Classical.choose (each j h) else q0, rfl, by omega, hl, hm, hb, fun j hj => ?_⟩
      simp only [dif_pos hj]
      exact Classical.choose_spec (each j hj)
end
end Go.Proofs.YtgfmjkbelciaaaaDoor
