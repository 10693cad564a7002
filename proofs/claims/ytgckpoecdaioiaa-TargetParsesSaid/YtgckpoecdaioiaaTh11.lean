/- Clean of the document. Conditions: a path of at most a million bytes. -/
import Derived.Test.YtgckpoecdaioiaaTf11
namespace Go.Proofs.Ytgckpoecdaioiaa
open Go.RowKit
set_option linter.unusedVariables false
set_option linter.unusedSimpArgs false

def strP (p : List UInt8) : Value := .string (ofL p)
def strsP (st : List (List UInt8)) : List Value := st.map strP
theorem infoStr : (Try.prog.info? 9).map (fun i => (i.zero, i.size, i.bytes)) = some (some (.string ByteArray.empty), 1, 16) := by kernel_rfl
/-- Parts that were gathered. -/
def GS (w0 : World) (st : List (List UInt8)) (v : Value) (w : World) : Prop := Gat w0 9 1 st.length (strsP st) v w
theorem gs_nil (w : World) : GS w [] (.slice none 0 0) w := ⟨World.ownsRow_nil _ _ _ _, Below.refl _ _⟩
theorem strsP_len (st : List (List UInt8)) : (strsP st).length = st.length := by simp [strsP]
theorem GS.cut {w0 w : World} {l : List (List UInt8)} {g n c : Nat} (h : GS w0 l (.slice (some ⟨g, 0, none⟩) n c) w) (k : Nat) (hk : k ≤ l.length) : GS w0 (l.take k) (.slice (some ⟨g, 0, none⟩) k c) w := by
  obtain ⟨⟨h1, h2⟩, hlow⟩ := h
  rcases h2 with ⟨hv, _⟩ | ⟨g', cap, cur, hv, hb, hg, hn, hm, hc, ht⟩
  · cases hv
  · injection hv with e1 e2 e3
    injection e1 with e1
    injection e1 with e1
    subst e1 e2 e3
    have hkl : (l.take k).length = k := by rw [List.length_take]; omega
    refine ⟨⟨by simp [strsP], .inr ⟨g, c, cur, by rw [hkl], hb, hg, by rw [hkl]; omega, hm, hc, ?_⟩⟩, hlow⟩
    rw [hkl, show strsP (l.take k) = (strsP l).take k by simp [strsP, List.map_take], ← ht, List.take_take]
    congr 1; omega
theorem GS.fits {w0 w : World} {l : List (List UInt8)} {A : Option Addr} {n c : Nat} (h : GS w0 l (.slice A n c) w) : n = l.length ∧ n ≤ c := by
  rcases h.row.2 with ⟨hv, h0⟩ | ⟨g', cap, cur, hv, _, _, h1, _⟩
  · injection hv with _ e1 e2; omega
  · injection hv with _ e1 e2; omega
theorem GS.cell {w0 w : World} {l : List (List UInt8)} {g n c : Nat} (h : GS w0 l (.slice (some ⟨g, 0, none⟩) n c) w) (j : Nat) (hj : j < l.length) : w.cell? ⟨g, j, none⟩ = some (.string (ofL l[j])) := by
  have := h.row.cells (g := g) rfl j (.string (ofL l[j])) (by simp [strsP, strP, hj])
  rw [add_none, Nat.zero_add] at this; exact this
theorem GS.some {w0 w : World} {l : List (List UInt8)} {v : Value} (h : GS w0 l v w) (hn : l ≠ []) : ∃ g c, v = .slice (some ⟨g, 0, none⟩) l.length c := by
  rcases h.row.2 with ⟨_, h0⟩ | ⟨g, cap, _, rfl, _⟩
  · exact absurd (List.eq_nil_of_length_eq_zero h0) hn
  · exact ⟨g, cap, rfl⟩
theorem add_part {w0 w : World} {st : List (List UInt8)} {v : Value} (h : GS w0 st v w) (hz : st.length + 1 ≤ 2000000) (p : List UInt8) :
    ∃ (A' : Option Addr) (C' : Nat) (w1 : World) (g n' c' : Nat) (w2 : World),
      (Builtin.append_ #[57, 57] 57 #[.slice (some ⟨w.heap.size, 0, none⟩) 0 0, v]).run Try.prog (w.alloc (.cells #[] 9)) = .ok (.slice A' st.length C') w1 ∧
      (Builtin.append_ #[57, 57] 57 #[.slice A' st.length C', .slice (some ⟨w1.heap.size, 0, none⟩) 1 1]).run Try.prog (w1.alloc (.cells #[.string (ofL p)] 9)) = .ok (.slice (some ⟨g, 0, none⟩) n' c') w2 ∧
      GS w0 (st ++ [p]) (.slice (some ⟨g, 0, none⟩) n' c') w2 := by
  obtain ⟨i0, hi, hz0, hz1, hz2⟩ := info_parts infoStr
  have ht := Try.underlying57
  have hown : (w.alloc (.cells #[] 9)).ownsRow w0.heap.size 9 1 (.slice (some ⟨w.heap.size, 0, none⟩) 0 0) 0 [] :=
    ⟨rfl, .inr ⟨w.heap.size, 0, #[], rfl, h.low.size, heap_alloc_new w _, Nat.le_refl _, by unfold maxLen; omega, rfl, rfl⟩⟩
  have first : ∃ (A' : Option Addr) (C' : Nat) (w1 : World), (Builtin.append_ #[57, 57] 57 #[.slice (some ⟨w.heap.size, 0, none⟩) 0 0, v]).run Try.prog (w.alloc (.cells #[] 9)) = .ok (.slice A' st.length C') w1 ∧
      GS w0 st (.slice A' st.length C') w1 := by
    by_cases he : st = []
    · subst he
      obtain ⟨A, C, rfl⟩ := h.form
      refine ⟨some ⟨w.heap.size, 0, none⟩, 0, w.alloc (.cells #[] 9), ?_, hown, h.low.alloc h.low.size _⟩
      cases A <;> simp [Builtin.append_, run_underlying ht, sizeOf, typeInfo, hi, Builtin.lenOf, Builtin.firstCells, loadCells, loadCellsFrom, storeCells]
    · obtain ⟨g, c, rfl⟩ := h.some he
      obtain ⟨v', w5, hrun, hown', hgrow, -, -⟩ := run_append_own_at (P := Try.prog) (w := w.alloc (.cells #[] 9)) w0.heap.size 57 57 9 i0 (.string ByteArray.empty) 1 16 ht hi hz0 hz1 hz2 rfl (by decide)
        (.slice (some ⟨w.heap.size, 0, none⟩) 0 0) 0 [] hown ⟨g, 0, none⟩ st.length c (strsP st) (by rw [strsP_len, Nat.mul_one]) (fun j u hj => by
          have hjl : j < st.length := by rw [← strsP_len]; exact (List.getElem?_eq_some_iff.1 hj).1
          have e : u = .string (ofL st[j]) := by simp [strsP, strP, hjl] at hj; exact hj.symm
          rw [add_none, Nat.zero_add, e]
          exact cell_alloc (h.cell j hjl) _) (fun u hu => by
          simp only [strsP, List.mem_map] at hu
          obtain ⟨b, _, rfl⟩ := hu
          rfl) (by unfold maxLen; omega) (by omega) (by have := h.low.size; simp; omega)
      rw [Nat.zero_add, List.nil_append] at hown'
      have hlow : Below w0.heap.size w0 w5 := (h.low.alloc h.low.size _).grown hgrow (by have := h.low.size; simp; omega) fun k e => by
        have : k = w.heap.size := by simpa [Value.ownBlock, eq_comm] using e
        rw [this]; exact h.low.size
      rcases hown'.2 with ⟨hv, h0⟩ | ⟨g2, cap, cur, rfl, _⟩
      · exact ⟨none, 0, w5, by rw [hrun, hv, h0], by rw [hv] at hown'; rw [h0]; exact ⟨by rw [h0] at hown' ⊢; exact hown', hlow⟩⟩
      · exact ⟨_, cap, w5, hrun, hown', hlow⟩
  obtain ⟨A', C', w1, hr1, hg1⟩ := first
  obtain ⟨g, n', c', w2, hr2, hg2⟩ := app_gat hg1 ht infoStr rfl (by decide) hz (by decide) [.string (ofL p)] rfl (by simp [Value.oneCell'])
  refine ⟨A', C', w1, g, n', c', w2, hr1, hr2, ?_⟩
  unfold GS
  rw [List.length_append, show strsP (st ++ [p]) = strsP st ++ [.string (ofL p)] by simp [strsP, strP]]
  exact hg2

/-! The path, byte by byte. -/
theorem cut_on {cur r : List UInt8} {c : UInt8} (h : c ≠ 47) : cutS cur (c :: r) = cutS (cur ++ [c]) r := by simp only [cutS]; rw [if_neg h]
theorem cut_slash (cur r : List UInt8) : cutS cur (47 :: r) = cur :: cutS [] r := by simp [cutS]
theorem ext_list (s : ByteArray) (f k : Nat) : (s.extract f k).data.toList = (s.data.toList.drop f).take (k - f) := by
  rw [ByteArray.data_extract, Array.toList_extract]
theorem ext_self (s : ByteArray) (k : Nat) : (s.extract k k).data.toList = [] := by rw [ext_list]; simp
theorem ext_snoc (s : ByteArray) (f k : Nat) (h : f ≤ k) (hk : k < s.size) : (s.extract f (k + 1)).data.toList = (s.extract f k).data.toList ++ [s[k]] := by
  rw [ext_list, ext_list, show k + 1 - f = (k - f) + 1 by omega, List.take_succ_eq_append_getElem (by rw [List.length_drop]; show k - f < s.size - f; omega), List.getElem_drop]
  congr 2
  show s.data.toList[f + (k - f)]'_ = _
  simp only [show f + (k - f) = k by omega]; rfl
theorem ext_len (s : ByteArray) (f k : Nat) (h : f ≤ k) (hk : k ≤ s.size) : (s.extract f k).data.toList.length = k - f := by
  rw [ext_list, List.length_take, List.length_drop, len_data]; omega
theorem joinS_take {st : List (List UInt8)} {k : Nat} (h : k < st.length) : joinS (st.take (k + 1)) = joinS (st.take k) ++ 47 :: st[k] := by
  rw [List.take_succ_eq_append_getElem h, joinS_snoc]
theorem join_le : ∀ (st : List (List UInt8)), st.length ≤ (joinS st).length
  | [] => by simp
  | p :: r => by have := join_le r; simp only [joinS, List.length_cons, List.length_append, List.cons_append]; omega
theorem joinS_take_le (st : List (List UInt8)) (k : Nat) : (joinS (st.take k)).length ≤ (joinS st).length := by
  have : joinS st = joinS (st.take k) ++ joinS (st.drop k) := by
    have h : ∀ a b : List (List UInt8), joinS (a ++ b) = joinS a ++ joinS b := by
      intro a b
      induction a with
      | nil => rfl
      | cons p r ih => simp [joinS, ih]
    rw [← h, List.take_append_drop]
  rw [this, List.length_append]; omega
theorem join_drop_le (st : List (List UInt8)) : (joinS st.dropLast).length ≤ (joinS st).length := by
  rw [List.dropLast_eq_take]; exact joinS_take_le _ _
end Go.Proofs.Ytgckpoecdaioiaa
