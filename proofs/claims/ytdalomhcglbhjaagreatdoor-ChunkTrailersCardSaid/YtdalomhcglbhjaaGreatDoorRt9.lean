/- The document's Tokens and Has. Conditions: values of at most a million bytes in all. -/
import Derived.Test.YtdalomhcglbhjaaGreatDoorHs9
import Derived.Test.YtdalomhcglbhjaaGreatDoorLowerR
import Derived.Deep.RegionWith
namespace Go.Proofs.YtdalomhcglbhjaaGreatDoor
open Go.RowKit
set_option linter.unusedVariables false

/-- A row that a function of w0 has gathered. -/
structure Gath (w0 : World) (L : List (List UInt8)) (v : Value) (w : World) : Prop where
  row : w.ownsRow w0.heap.size 9 1 v L.length (strs9 L)
  low : Below w0.heap.size w0 w
theorem Gath.below {w0 w w' : World} {L : List (List UInt8)} {v : Value} (h : Gath w0 L v w) (hb : Below w.heap.size w w') : Gath w0 L v w' :=
  ⟨h.row.kept (row := none) ⟨hb.os, hb.tape, hb.output, hb.size, fun k hk _ => hb.block k hk⟩ (by rcases h.row.2 with ⟨rfl, _⟩ | ⟨g, cap, cur, rfl, _⟩ <;> simp [Value.ownBlock]), h.low.trans (hb.mono h.low.size)⟩
theorem Gath.grown {w0 w w' : World} {L : List (List UInt8)} {v v' : Value} {p : List UInt8} (h : Gath w0 L v w) (o : Obj) (ho : w'.ownsRow w0.heap.size 9 1 v' (L.length + 1) (strs9 L ++ [strV p])) (hg : (w.alloc o).grownBy w' v.ownBlock) : Gath w0 (L ++ [p]) v' w' := by
  refine ⟨?_, (h.low.alloc h.low.size o).grown hg (by have := h.low.size; simp; omega) fun k e => (h.row.lt k e).1⟩
  rw [List.length_append, show strs9 (L ++ [p]) = strs9 L ++ [strV p] by simp [strs9]]; exact ho
/-- append, by how it runs. -/
theorem wpList_run_app {P : Program} {ops : Array Oper} {rest : List Oper} {o : Oper} {a : Act} {w w' : World} {Q : Exit → Act → World → Prop} (hgd : o.guard = none) (s x : Operand) (t : TypeId)
    (ho : o.op = .call { callee := .builtin .append, args := #[s, x], argTypes := #[t, t] }) {v u v' : Value} (hs : a.eval s = v) (hx : a.eval x = u)
    (hr : (Builtin.append_ #[t, t] o.type #[v, u]).run P w = .ok v' w') (h : wpList P ops Q rest (a.put o.dst v') w') : wpList P ops Q (o :: rest) a w := by
  refine wpList_plain hgd fun K hK => ?_
  unfold Oper.wp
  simp [execOp, ho, resolve, invoke, builtin, hs, hx, hr, Result.andThen]
  exact hK _ _ h
theorem Gath.form {w0 w : World} {L : List (List UInt8)} {v : Value} (h : Gath w0 L v w) : ∃ a c, v = .slice a L.length c := by
  rcases h.row.2 with ⟨hv, h0⟩ | ⟨g, cap, cur, rfl, _⟩
  · exact ⟨none, 0, by rw [hv, h0]⟩
  · exact ⟨_, _, rfl⟩
theorem ext_list (s : ByteArray) (f k : Nat) : (s.extract f k).data.toList = (s.data.toList.drop f).take (k - f) := by
  rw [ByteArray.data_extract, Array.toList_extract]
theorem ext_self (s : ByteArray) (k : Nat) : (s.extract k k).data.toList = [] := by rw [ext_list]; simp
theorem ext_snoc (s : ByteArray) (f k : Nat) (h : f ≤ k) (hk : k < s.size) : (s.extract f (k + 1)).data.toList = (s.extract f k).data.toList ++ [s[k]] := by
  rw [ext_list, ext_list, show k + 1 - f = (k - f) + 1 by omega, List.take_succ_eq_append_getElem (by rw [List.length_drop]; show k - f < s.size - f; omega), List.getElem_drop]
  congr 2
  show s.data.toList[f + (k - f)]'_ = _
  simp only [show f + (k - f) = k by omega]; rfl
theorem cut_on {s : ByteArray} {f k : Nat} (h : f ≤ k) (hk : k < s.size) (hc : s[k] ≠ 44) : cutAcc (s.extract f k).data.toList (s.data.toList.drop k) = cutAcc (s.extract f (k + 1)).data.toList (s.data.toList.drop (k + 1)) := by
  rw [drop_cons s k hk]; simp only [cutAcc]; rw [if_neg hc, ext_snoc s f k h hk]
theorem cut_end {s : ByteArray} {f k : Nat} (hk : k < s.size) (hc : s[k] = 44) : cutAcc (s.extract f k).data.toList (s.data.toList.drop k) = (s.extract f k).data.toList :: cutAcc (s.extract (k + 1) (k + 1)).data.toList (s.data.toList.drop (k + 1)) := by
  rw [drop_cons s k hk]; simp only [cutAcc]; rw [if_pos hc, ext_self]
theorem cut_zero (s : ByteArray) : cutAcc (s.extract 0 0).data.toList (s.data.toList.drop 0) = cutAcc [] s.data.toList := by rw [ext_self]; rfl
theorem cut_done (s : ByteArray) (f : Nat) : cutAcc (s.extract f s.size).data.toList (s.data.toList.drop s.size) = [] := by
  rw [List.drop_of_length_le (by rw [len_data]; exact Nat.le_refl _)]; rfl

end Go.Proofs.YtdalomhcglbhjaaGreatDoor
