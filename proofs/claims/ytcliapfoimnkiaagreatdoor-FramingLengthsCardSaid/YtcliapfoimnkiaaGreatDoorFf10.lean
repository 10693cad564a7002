/- The library's DeleteFunc with the code's closure; Drop of the code. Conditions: texts of at most a million bytes, 24 fields. -/
import Derived.Test.YtcliapfoimnkiaaGreatDoorFe10
namespace Go.Proofs.YtcliapfoimnkiaaGreatDoor
open Go.RowKit
set_option linter.unusedVariables false
set_option linter.unusedSimpArgs false

section
variable {w w' : World} {g n m cap k : Nat} {e : TypeId} {A : Option Addr} {xs : List Value}
theorem own_setCellsF (h : w.ownsRow 0 e k (.slice (some ⟨g, 0, none⟩) n cap) n xs) (vs : List Value) (o : Nat) (ho : o + vs.length ≤ xs.length) :
    (w.setCells g o vs).ownsRow 0 e k (.slice (some ⟨g, 0, none⟩) n cap) n (xs.take o ++ vs ++ xs.drop (o + vs.length)) ∧ Mods [g] w (w.setCells g o vs) := by
  induction vs generalizing w o xs with
  | nil => simp only [World.setCells, List.append_nil, List.length_nil, Nat.add_zero, List.take_append_drop]; exact ⟨h, Mods.refl _ _⟩
  | cons v vs ih =>
    simp only [List.length_cons] at ho
    obtain ⟨h1, h2⟩ := World.ownsRow.stored h o v
    obtain ⟨h3, h4⟩ := ih h1 (o + 1) (by simp; omega)
    refine ⟨?_, ((Mods.refl [g] w).setCell (.inl (by simp)) v).trans h4 fun k hk => .inl hk⟩
    have e1 : (xs.set o v).take (o + 1) = xs.take o ++ [v] := by
      rw [List.take_set, List.take_succ_eq_append_getElem (by omega), List.set_append_right _ _ (by simp; omega)]
      simp [Nat.min_eq_left (show o ≤ xs.length by omega)]
    have e2 : (xs.set o v).drop (o + 1 + vs.length) = xs.drop (o + (vs.length + 1)) := by
      rw [List.drop_set_of_lt (by omega), show o + 1 + vs.length = o + (vs.length + 1) by omega]
    rw [e1, e2] at h3
    simp only [World.setCells, List.length_cons]
    simpa [List.append_assoc] using h3
theorem own_lessF (h : w.ownsRow 0 e k (.slice A n cap) n xs) (hm : m ≤ n) (h0 : 0 < n) : w.ownsRow 0 e k (.slice A m cap) m (xs.take (m * k)) := by
  have hmk : m * k ≤ n * k := Nat.mul_le_mul_right k hm
  rcases h.2 with ⟨_, rfl⟩ | ⟨g, cap', cur, hv, hb, hg, h1, h2, h3, h4⟩
  · omega
  · injection hv with e1 e2 e3
    subst e1 e3
    refine ⟨by rw [List.length_take, h.1]; omega, .inr ⟨g, cap, cur, rfl, hb, hg, by omega, h2, h3, ?_⟩⟩
    rw [← h4, List.take_take, Nat.min_eq_left hmk]
end
theorem encF_set (T : List FV) (i : Nat) (p : FV) (h : i < T.length) : (encF T).take (i * 2) ++ [.string p.1, .string p.2] ++ (encF T).drop (i * 2 + 2) = encF (T.set i p) := by
  rw [show i * 2 + 2 = (i + 1) * 2 by omega, ← encF_take, ← encF_drop]
  have : T.set i p = T.take i ++ [p] ++ T.drop (i + 1) := by
    rw [List.set_eq_take_append_cons_drop, if_pos h]; simp
  rw [this, encF_append, encF_append]; rfl
/-- The row while fields are taken out: the first i are kept, from j on nothing has turned. -/
structure Cutting (p : FV → Bool) (w : World) (S : List FV) (b cap i j : Nat) (wr : World) : Prop where
  ex : ∃ T : List FV, wr.ownsRow 0 35 2 (.slice (some ⟨b, 0, none⟩) S.length cap) S.length (encF T) ∧ T.length = S.length ∧ T.take i = (S.take j).filter (fun x => !p x) ∧ T.drop j = S.drop j
  lt : i < j
  le : j ≤ S.length
  low : Mods [b] w wr
section
variable {p : FV → Bool} {w wr w' : World} {S : List FV} {b cap i j : Nat}
theorem Cutting.mods (h : Cutting p w S b cap i j wr) (hm : Mods [] wr w') : Cutting p w S b cap i j w' := by
  obtain ⟨T, h1, r⟩ := h.ex
  exact ⟨⟨T, own_mods h1 hm (by simp), r⟩, h.lt, h.le, h.low.trans hm (fun _ h => nomatch h)⟩
theorem Cutting.cell (h : Cutting p w S b cap i j wr) (hj : j < S.length) : wr.cell? ⟨b, j * 2, none⟩ = some (.string S[j].1) ∧ wr.cell? ⟨b, j * 2 + 1, none⟩ = some (.string S[j].2) := by
  obtain ⟨T, h1, h2, _, h4⟩ := h.ex
  have e : T[j]'(by omega) = S[j] := by
    have := congrArg (fun l => l[0]?) h4
    simp only [List.getElem?_drop, Nat.add_zero] at this
    rw [List.getElem?_eq_getElem (by omega), List.getElem?_eq_getElem hj] at this
    exact Option.some.inj this
  have := encF_at T j (by omega)
  rw [e] at this
  exact ⟨(h1.cellAt _ (by omega)).trans this.1, (h1.cellAt _ (by omega)).trans this.2⟩
theorem Cutting.there (h : Cutting p w S b cap i j wr) (k : Nat) (hk : k < S.length * 2) : (∃ u, wr.cell? ⟨b, k, none⟩ = some u) ∧ wr.frozen? ⟨b, k, none⟩ = false := by
  obtain ⟨T, h1, h2, _⟩ := h.ex
  refine ⟨⟨(encF T)[k]'(by rw [encF_len]; omega), ?_⟩, h1.frozenAt k⟩
  rw [h1.cellAt k hk, List.getElem?_eq_getElem (by rw [encF_len]; omega)]
theorem Cutting.skip (h : Cutting p w S b cap i j wr) (hj : j < S.length) (hp : p S[j] = true) : Cutting p w S b cap i (j + 1) wr := by
  obtain ⟨T, h1, h2, h3, h4⟩ := h.ex
  refine ⟨⟨T, h1, h2, ?_, ?_⟩, by have := h.lt; omega, by omega, h.low⟩
  · rw [List.take_succ_eq_append_getElem hj, List.filter_append, h3]; simp [hp]
  · rw [← List.drop_drop, h4, List.drop_drop]
theorem Cutting.move (h : Cutting p w S b cap i j wr) (hj : j < S.length) (hp : p S[j] = false) :
    Cutting p w S b cap (i + 1) (j + 1) ((wr.setCell ⟨b, i * 2, none⟩ (.string S[j].1)).setCell ⟨b, i * 2 + 1, none⟩ (.string S[j].2)) := by
  obtain ⟨T, h1, h2, h3, h4⟩ := h.ex
  have hi := h.lt
  have hs := own_setCellsF h1 [.string S[j].1, .string S[j].2] (i * 2) (by rw [encF_len]; simp; omega)
  rw [show [Value.string S[j].1, .string S[j].2].length = 2 from rfl, encF_set T i S[j] (by omega)] at hs
  refine ⟨⟨T.set i S[j], hs.1, by simp [h2], ?_, ?_⟩, by omega, by omega, h.low.trans hs.2 fun _ h => .inl h⟩
  · rw [List.take_succ_eq_append_getElem hj, List.filter_append, ← h3, List.take_succ_eq_append_getElem (by simp; omega), List.take_set_of_le (Nat.le_refl _)]
    simp [hp]
  · rw [List.drop_set_of_lt (by omega), ← List.drop_drop, h4, List.drop_drop]
end
theorem zeroCells_one (n : Nat) : (Builtin.zeroCells #[Value.string ByteArray.empty, .string ByteArray.empty] n).size = n * 2 ∧ ∀ u ∈ (Builtin.zeroCells #[Value.string ByteArray.empty, .string ByteArray.empty] n).toList, u.oneCell' = true := by
  refine ⟨by simp [Builtin.zeroCells], fun u hu => ?_⟩
  simp only [Builtin.zeroCells, Array.toList_map, List.mem_map] at hu
  obtain ⟨i, _, rfl⟩ := hu
  have : i % 2 = 0 ∨ i % 2 = 1 := by omega
  rcases this with h | h <;> simp [h, Value.oneCell']
theorem zero_fl (w : World) : (zeroValue 35).run Tryz.prog w = .ok (.agg #[.string ByteArray.empty, .string ByteArray.empty]) w := by kernel_rfl
theorem clear_f (w : World) (ty : TypeId) (b o m c : Nat) (hm : 0 < m) (hc : ∀ j, j < m * 2 → (w.cell? ⟨b, o + j, none⟩).isSome = true) (hf : ∀ j, j < m * 2 → w.frozen? ⟨b, o + j, none⟩ = false) :
    (Builtin.clear_ #[22] ty #[.slice (some ⟨b, o, none⟩) m c]).run Tryz.prog w = .ok (.tuple #[]) (w.setCells b o (Builtin.zeroCells #[.string ByteArray.empty, .string ByteArray.empty] m).toList) := by
  obtain ⟨m, rfl⟩ : ∃ k, m = k + 1 := ⟨m - 1, by omega⟩
  obtain ⟨hz1, hz2⟩ := zeroCells_one (m + 1)
  have hst := run_storeCells_cells (P := Tryz.prog) b o (Builtin.zeroCells #[.string ByteArray.empty, .string ByteArray.empty] (m + 1)).toList 0 w (by simpa [hz1] using hc) (by simpa [hz1] using hf) hz2
  simp only [Nat.add_zero] at hst
  have ht := run_underlying (P := Tryz.prog) (w := w) Tryz.underlying22
  have hz := zero_fl w
  simp [Builtin.clear_, ht, hz, hst, Value.cells]
theorem Cutting.done {p : FV → Bool} {w wr : World} {S : List FV} {b cap i : Nat} (h : Cutting p w S b cap i S.length wr) (vs : List Value) (hv : vs.length = (S.length - i) * 2) :
    (wr.setCells b (i * 2) vs).ownsRow 0 35 2 (.slice (some ⟨b, 0, none⟩) i cap) i (encF (S.filter fun x => !p x)) ∧ Mods [b] w (wr.setCells b (i * 2) vs) ∧ (S.filter fun x => !p x).length = i := by
  obtain ⟨T, h1, h2, h3, h4⟩ := h.ex
  have hi := h.lt
  have hs := own_setCellsF h1 vs (i * 2) (by rw [encF_len]; omega)
  have hl := own_lessF hs.1 (m := i) (by omega) (by omega)
  rw [List.take_length] at h3
  refine ⟨?_, h.low.trans hs.2 fun _ h => .inl h, ?_⟩
  · rw [List.append_assoc, List.take_append_of_le_length (by rw [List.length_take, encF_len]; omega), List.take_take, Nat.min_self, ← encF_take, h3] at hl
    exact hl
  · rw [← h3, List.length_take]; omega


end Go.Proofs.YtcliapfoimnkiaaGreatDoor
