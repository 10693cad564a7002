/- What FieldPlays needs of copies and of two Fields side by side. Conditions: as each says. -/
import Derived.Test.YtakimadhbgpedaaDoorFq10
import Derived.Deep.Upon
namespace Go.Proofs.YtakimadhbgpedaaDoor
open Go.RowKit
set_option linter.unusedVariables false
set_option linter.unusedSimpArgs false

/-- append([]api.Field{}, l...): the same fields, in new memory. -/
theorem copy_fs (w : World) (A : Option Addr) (C : Nat) (l : List FV) (h : FsAt w (.slice A l.length C) l) (hl : l.length ≤ 5000) :
    ∃ (A' : Option Addr) (C' : Nat) (w' : World), (Builtin.append_ #[31, 31] 31 #[.slice (some ⟨w.heap.size, 0, none⟩) 0 0, .slice A l.length C]).run Tryd.prog (w.alloc (.cells #[] 23)) = .ok (.slice A' l.length C') w' ∧
      FsAt w' (.slice A' l.length C') l ∧ Mods [] w w' ∧ ∀ k ∈ (Value.slice A' l.length C').ownBlock.toList, w.heap.size ≤ k := by
  obtain ⟨i0, hi, hz0, hz1, hz2⟩ := info_parts infoFl
  have ht := Tryd.underlying31
  rcases h with ⟨rfl, a, cap, hv⟩ | ⟨b, off, cap, hv, h0, hb, hc⟩
  · refine ⟨some ⟨w.heap.size, 0, none⟩, 0, w.alloc (.cells #[] 23), ?_, .inl ⟨rfl, _, _, rfl⟩, (Mods.refl [] w).alloc _, fun k hk => ?_⟩
    · cases A <;> simp [Builtin.append_, run_underlying ht, sizeOf, typeInfo, hi, Builtin.lenOf, Builtin.firstCells, loadCells, loadCellsFrom, storeCells]
    · have : k = w.heap.size := by simpa [Value.ownBlock, eq_comm] using hk
      omega
  · injection hv with h1 h2 h3
    subst h1
    have hown : (w.alloc (.cells #[] 23)).ownsRow w.heap.size 23 2 (.slice (some ⟨w.heap.size, 0, none⟩) 0 0) 0 [] :=
      ⟨rfl, .inr ⟨w.heap.size, 0, #[], rfl, Nat.le_refl _, heap_alloc_new w _, Nat.le_refl _, by unfold maxLen; omega, rfl, rfl⟩⟩
    obtain ⟨v', w5, hrun, hown', hgrow, -, -⟩ := run_append_own_at (P := Tryd.prog) (w := w.alloc (.cells #[] 23)) w.heap.size 31 31 23 i0 (.agg #[.string ByteArray.empty, .string ByteArray.empty]) 2 32 ht hi hz0 hz1 hz2 rfl (by decide)
      (.slice (some ⟨w.heap.size, 0, none⟩) 0 0) 0 [] hown ⟨b, off, none⟩ l.length C (encF l) (encF_len l) (fun j u hj => by
        rw [add_noneF]
        have hjl : j < l.length * 2 := by rw [← encF_len]; exact (List.getElem?_eq_some_iff.1 hj).1
        obtain ⟨q, hq⟩ : ∃ q, j = q * 2 ∨ j = q * 2 + 1 := ⟨j / 2, by omega⟩
        have hh : q < l.length := by omega
        have e := encF_at l q hh
        have hcc := hc q hh
        rcases hq with rfl | rfl
        · rw [e.1] at hj
          rw [← hj]
          exact cell_alloc hcc.1 _
        · rw [e.2] at hj
          rw [← hj, ← Nat.add_assoc]
          exact cell_alloc hcc.2 _) (encF_one l) (by unfold maxLen; omega) (by omega) (by simp)
    rw [Nat.zero_add, List.nil_append] at hown'
    obtain ⟨a', c', hv', -, -⟩ : ∃ a c, v' = .slice a l.length c ∧ True ∧ True := by
      rcases hown'.2 with ⟨hv, h0⟩ | ⟨g, cap, cur, rfl, _⟩
      · exact ⟨none, 0, by rw [hv, h0], trivial, trivial⟩
      · exact ⟨_, _, rfl, trivial, trivial⟩
    subst hv'
    refine ⟨a', c', w5, hrun, FsAt.of_row hown', ((Mods.refl [] w).alloc _).grown hgrow (fun k e => ?_), fun k hk => ?_⟩
    · have : k = w.heap.size := by simpa [Value.ownBlock, eq_comm] using e
      exact .inr (by omega)
    · rcases hown'.2 with ⟨hv, _⟩ | ⟨g, cap, cur, hv, hg, _⟩
      · rw [hv] at hk; simp [Value.ownBlock] at hk
      · rw [hv] at hk
        have : k = g := by simpa [Value.ownBlock, eq_comm] using hk
        omega
section
variable {t1 t2 : TypeId} {W w w' : World} {g1 g2 : Nat} {v1 v2 : Value} {S1 S2 : List FV} {F : List Nat}
theorem Two.far (h : Two t1 t2 W w g1 v1 S1 g2 v2 S2) (hm : Mods F w w') (h1 : ∀ k ∈ bl g1 v1, k ∉ F) (h2 : ∀ k ∈ bl g2 v2, k ∉ F) (hF : ∀ k ∈ F, W.heap.size ≤ k) : Two t1 t2 W w' g1 v1 S1 g2 v2 S2 :=
  ⟨h.p.mods hm (h1 _ (by simp)) (fun k hk => h1 k (List.mem_cons_of_mem _ hk)), h.x.mods hm (h2 _ (by simp)) (fun k hk => h2 k (List.mem_cons_of_mem _ hk)), h.ap, h.b1, h.b2, h.low.trans hm fun k hk => .inr (hF k hk)⟩
end
theorem row_ss {w : World} {q : Nat} {t : TypeId} {a b : ByteArray} (h : Row w q t #[.string a, .string b]) : SsAt w (.slice (some ⟨q, 0, none⟩) 2 2) [a, b] := by
  refine .inr ⟨q, 0, 2, rfl, by simp, by simp, h.lt, fun j hj => ?_⟩
  rw [h.cell, Nat.zero_add]
  have hj2 : j < 2 := hj
  match j, hj2 with
  | 0, _ => rfl
  | 1, _ => rfl
theorem row_second {t : TypeId} {cs : Array Value} (w : World) (o : Obj) : Row ((w.alloc o).alloc (.cells cs t)) (w.heap.size + 1) t cs := by
  have := Row.new (w.alloc o) t cs
  rw [World.size_alloc] at this
  exact this
theorem Added.from_ {t : TypeId} {w w1 w2 : World} {g : Nat} {v u : Value} {S : List FV} (h : Added t w1 g v S u w2) (hm : Mods [] w w1) : Added t w g v S u w2 :=
  ⟨h.fld, (hm.more (fun _ h => nomatch h)).trans h.mods (fun k hk => .inl hk), fun k hk => by
    rcases h.news k hk with h | h
    · exact .inl h
    · exact .inr (Nat.le_trans hm.size h)⟩
/-- Both sides hold the same fields. -/
def St10 (W w : World) (g1 g2 : Nat) : Prop := ∃ v1 v2 S, Two 62 40 W w g1 v1 S g2 v2 S
end Go.Proofs.YtakimadhbgpedaaDoor
