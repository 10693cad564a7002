/- A row of bytes that a function gathers: append of a byte, of a text; bytes turned into a text; a row cut back. Conditions: as each says. -/
import Derived.Test.YtgckpoecdaioiaaTb11
import Derived.Maps.AppendAt
import Derived.Lib.AppendStr
import Derived.Laws.IdiomStrings
import Derived.Laws.BytesArg
import Derived.Laws.MakeOwn
namespace Go.Proofs.Ytgckpoecdaioiaa
open Go.RowKit
set_option linter.unusedVariables false

theorem own_succ {W : World} {base : Nat} {e : TypeId} {size : Nat} {v : Value} {k : Nat} {xs : List Value} (h : W.ownsRow base e size v (k + 1) xs) : ∃ g cap, v = .slice (some ⟨g, 0, none⟩) (k + 1) cap := by
  rcases h.2 with ⟨_, h0⟩ | ⟨g, cap, _, rfl, _⟩
  · omega
  · exact ⟨g, cap, rfl⟩
theorem add_none (b off j : Nat) : (⟨b, off, none⟩ : Addr).add j = ⟨b, off + j, none⟩ := by
  unfold Addr.add; split <;> simp_all
/-- append, by how it runs. -/
theorem wpList_run_app {P : Program} {ops : Array Oper} {rest : List Oper} {o : Oper} {a : Act} {w w' : World} {Q : Exit → Act → World → Prop} (hgd : o.guard = none) (s x : Operand) (t t2 : TypeId)
    (ho : o.op = .call { callee := .builtin .append, args := #[s, x], argTypes := #[t, t2] }) {v u v' : Value} (hs : a.eval s = v) (hx : a.eval x = u)
    (hr : (Builtin.append_ #[t, t2] o.type #[v, u]).run P w = .ok v' w') (h : wpList P ops Q rest (a.put o.dst v') w') : wpList P ops Q (o :: rest) a w := by
  refine wpList_plain hgd fun K hK => ?_
  unfold Oper.wp
  simp [execOp, ho, resolve, invoke, builtin, hs, hx, hr, Result.andThen]
  exact hK _ _ h
/-- A row of n elements of a type that a function of w0 has gathered. -/
structure Gat (w0 : World) (t : TypeId) (size : Nat) (n : Nat) (xs : List Value) (v : Value) (w : World) : Prop where
  row : w.ownsRow w0.heap.size t size v n xs
  low : Below w0.heap.size w0 w
theorem Gat.below {w0 w w' : World} {t : TypeId} {size n : Nat} {xs : List Value} {v : Value} (h : Gat w0 t size n xs v w) (hb : Below w.heap.size w w') : Gat w0 t size n xs v w' :=
  ⟨h.row.kept (row := none) ⟨hb.os, hb.tape, hb.output, hb.size, fun k hk _ => hb.block k hk⟩ (by rcases h.row.2 with ⟨rfl, _⟩ | ⟨g, cap, cur, rfl, _⟩ <;> simp [Value.ownBlock]), h.low.trans (hb.mono h.low.size)⟩
theorem Gat.form {w0 w : World} {t : TypeId} {size n : Nat} {xs : List Value} {v : Value} (h : Gat w0 t size n xs v w) : ∃ a c, v = .slice a n c := by
  rcases h.row.2 with ⟨hv, h0⟩ | ⟨g, cap, cur, rfl, _⟩
  · exact ⟨none, 0, by rw [hv, h0]⟩
  · exact ⟨_, _, rfl⟩
theorem cells_new (w : World) (l : List Value) (t : TypeId) : ∀ (j : Nat) u, l[j]? = some u → (w.alloc (.cells l.toArray t)).cell? ((⟨w.heap.size, 0, none⟩ : Addr).add j) = some u := by
  intro j u hj
  rw [add_none, Nat.zero_add, (Row.new w t l.toArray).cell j]
  simpa using hj
theorem app_gat {w0 w : World} {st t : TypeId} {z : Value} {size bytes n : Nat} {xs : List Value} {v : Value} (h : Gat w0 t size n xs v w) (hu : Try.prog.underlying st = some (.slice t))
    (hinfo : (Try.prog.info? t).map (fun i => (i.zero, i.size, i.bytes)) = some (some z, size, bytes)) (hz : z.cells.size = size) (h0 : 0 < size) (hroom : n + 1 ≤ 2000000) (hby : bytes ≤ 1000)
    (l : List Value) (hl : l.length = size) (h1 : ∀ u ∈ l, u.oneCell' = true) :
    ∃ (g n' c' : Nat) (w' : World), (Builtin.append_ #[st, st] st #[v, .slice (some ⟨w.heap.size, 0, none⟩) 1 1]).run Try.prog (w.alloc (.cells l.toArray t)) = .ok (.slice (some ⟨g, 0, none⟩) n' c') w' ∧
      Gat w0 t size (n + 1) (xs ++ l) (.slice (some ⟨g, 0, none⟩) n' c') w' := by
  obtain ⟨i0, hi, hz0, hz1, hz2⟩ := info_parts hinfo
  obtain ⟨v', w5, hrun, hown', hgrow, -, -⟩ := run_append_own_at (P := Try.prog) (w := w.alloc (.cells l.toArray t)) w0.heap.size st st t i0 z size bytes hu hi hz0 hz1 hz2 hz h0
    v n xs (h.row.alloc _) ⟨w.heap.size, 0, none⟩ 1 1 l (by omega) (cells_new w l t) h1 (by unfold maxLen; omega) (by have := Nat.mul_le_mul hroom hby; omega) (by have := h.low.size; simp; omega)
  obtain ⟨g, c', rfl⟩ := own_succ hown'
  exact ⟨g, _, c', w5, hrun, hown', (h.low.alloc h.low.size _).grown hgrow (by have := h.low.size; simp; omega) fun k e => (h.row.lt k e).1⟩

def bys (l : List UInt8) : List Value := l.map fun c => Value.int .u8 (c.toNat : Int)
theorem bys_len (l : List UInt8) : (bys l).length = l.length := by simp [bys]
theorem infoU8 : (Try.prog.info? 5).map (fun i => (i.zero, i.size, i.bytes)) = some (some (.int .u8 0), 1, 1) := by kernel_rfl
/-- Bytes that were gathered. -/
def GB (w0 : World) (l : List UInt8) (v : Value) (w : World) : Prop := Gat w0 5 1 l.length (bys l) v w
theorem app_byte {w0 w : World} {l : List UInt8} {v : Value} (h : GB w0 l v w) (hroom : l.length + 1 ≤ 2000000) (c : UInt8) :
    ∃ (g n' c' : Nat) (w' : World), (Builtin.append_ #[42, 42] 42 #[v, .slice (some ⟨w.heap.size, 0, none⟩) 1 1]).run Try.prog (w.alloc (.cells #[.int .u8 (c.toNat : Int)] 5)) = .ok (.slice (some ⟨g, 0, none⟩) n' c') w' ∧
      GB w0 (l ++ [c]) (.slice (some ⟨g, 0, none⟩) n' c') w' := by
  obtain ⟨g, n', c', w', hr, hg⟩ := app_gat h Try.underlying42 infoU8 rfl (by decide) hroom (by decide) [.int .u8 (c.toNat : Int)] rfl (by simp [Value.oneCell'])
  refine ⟨g, n', c', w', hr, ?_⟩
  unfold GB
  rw [List.length_append, show bys (l ++ [c]) = bys l ++ [.int .u8 (c.toNat : Int)] by simp [bys]]; exact hg
theorem conv_gat {w0 w : World} {l : List UInt8} {v : Value} (h : GB w0 l v w) : (convert 42 9 v).run Try.prog w = .ok (.string ⟨l.toArray⟩) w := by
  rcases h.row.2 with ⟨rfl, h0⟩ | ⟨g, cap, cur, rfl, hb, hg, hn, hm, hc, ht⟩
  · obtain rfl : l = [] := List.eq_nil_of_length_eq_zero h0
    exact run_convert_bytes_nil w 42 5 Try.underlying42 Try.underlying5 0 0 9 Try.underlying9
  · refine run_convert_bytes_back w 42 9 5 ⟨g, 0, none⟩ cap l Try.underlying42 Try.underlying5 Try.underlying9 fun j hj => ?_
    have e : cur.toList[j]? = some (.int .u8 (l[j].toNat : Int)) := by
      have h1 : (cur.toList.take (l.length * 1))[j]? = (bys l)[j]? := by rw [ht]
      rw [List.getElem?_take, if_pos (by omega)] at h1
      rw [h1]; simp [bys, hj]
    rw [add_none, Nat.zero_add]
    have e2 : cur[j]? = some (.int .u8 (l[j].toNat : Int)) := by rw [← Array.getElem?_toList]; exact e
    simp only [World.cell?, hg]
    simp [e2]
theorem gb_nil (w : World) : GB w [] (.slice none 0 0) w := ⟨World.ownsRow_nil _ _ _ _, Below.refl _ _⟩
theorem make_cap (n : Nat) (h : n ≤ 1000000) (w : World) : (Instr.makeSlice 42 (.int .i64 0) (.int .i64 (n : Int))).run Try.prog w =
    .ok (.slice (some ⟨w.heap.size, 0, none⟩) 0 n) (w.alloc (.cells (madeCells #[.int .u8 0] n) 5)) := by
  obtain ⟨i, hi, hz, hs, hb⟩ := info_parts infoU8
  have := run_make (P := Try.prog) w 42 5 i (.int .u8 0) Try.underlying42 hi hz .i64 .i64 0 n (by omega) (by omega) (by rw [hb]; omega) (by omega)
  simpa [hs, Value.cells] using this
theorem gb_made (w : World) (n : Nat) (h : n ≤ 1000000) : GB w [] (.slice (some ⟨w.heap.size, 0, none⟩) 0 n) (w.alloc (.cells (madeCells #[.int .u8 0] n) 5)) :=
  ⟨World.ownsRow_made w (madeCells #[.int .u8 0] n) n (Nat.le_refl _) (by unfold maxLen; omega) (by simp [madeCells]), (Below.refl _ w).alloc (Nat.le_refl _) _⟩

theorem bys_str (s : ByteArray) : Lib.strCells s = bys s.data.toList := rfl
/-- append of a text's bytes. -/
theorem app_text {w0 w : World} {l : List UInt8} {v : Value} (h : GB w0 l v w) (s : ByteArray) (hroom : l.length + s.size ≤ 10000000) (hp : 0 < l.length) :
    ∃ (g n' c' : Nat) (w' : World), (Builtin.append_ #[42, 9] 42 #[v, .string s]).run Try.prog w = .ok (.slice (some ⟨g, 0, none⟩) n' c') w' ∧
      GB w0 (l ++ s.data.toList) (.slice (some ⟨g, 0, none⟩) n' c') w' := by
  obtain ⟨i0, hi, hz0, hz1, hz2⟩ := info_parts infoU8
  obtain ⟨v', w5, hrun, hown', hgrow, hnil⟩ := Lib.run_append_own_string (P := Try.prog) w w0.heap.size 42 9 42 5 i0 Try.underlying42 Try.underlying9 hi hz0 hz1 hz2
    v l.length (bys l) h.row s (by unfold maxLen; omega) (by omega) h.low.size
  rcases hown'.2 with ⟨rfl, h0⟩ | ⟨g, cap, cur, rfl, _⟩
  · omega
  · refine ⟨g, _, cap, w5, hrun, ?_, h.low.grown hgrow h.low.size fun k e => (h.row.lt k e).1⟩
    rw [List.length_append, show bys (l ++ s.data.toList) = bys l ++ Lib.strCells s by rw [bys_str]; simp [bys], len_data]; exact hown'
/-- A row cut back to its first k. -/
theorem GB.cut {w0 w : World} {l : List UInt8} {g n c : Nat} (h : GB w0 l (.slice (some ⟨g, 0, none⟩) n c) w) (k : Nat) (hk : k ≤ l.length) : GB w0 (l.take k) (.slice (some ⟨g, 0, none⟩) k c) w := by
  obtain ⟨⟨h1, h2⟩, hlow⟩ := h
  rcases h2 with ⟨hv, _⟩ | ⟨g', cap, cur, hv, hb, hg, hn, hm, hc, ht⟩
  · cases hv
  · injection hv with e1 e2 e3
    injection e1 with e1
    injection e1 with e1
    subst e1 e2 e3
    have hkl : (l.take k).length = k := by rw [List.length_take]; omega
    refine ⟨⟨by simp [bys], .inr ⟨g, c, cur, by rw [hkl], hb, hg, by rw [hkl]; omega, hm, hc, ?_⟩⟩, hlow⟩
    rw [hkl, show bys (l.take k) = (bys l).take k by simp [bys, List.map_take], ← ht, List.take_take]
    congr 1; omega
/-- A byte of a row. -/
theorem GB.cell {w0 w : World} {l : List UInt8} {g n c : Nat} (h : GB w0 l (.slice (some ⟨g, 0, none⟩) n c) w) (j : Nat) (hj : j < l.length) : w.cell? ⟨g, j, none⟩ = some (.int .u8 (l[j].toNat : Int)) := by
  have := h.row.cells (g := g) rfl j (.int .u8 (l[j].toNat : Int)) (by simp [bys, hj])
  rw [add_none, Nat.zero_add] at this; exact this
theorem GB.len {w0 w : World} {l : List UInt8} {a : Option Addr} {n c : Nat} (h : GB w0 l (.slice a n c) w) : n = l.length := by
  rcases h.row.2 with ⟨hv, h0⟩ | ⟨g', cap, cur, hv, _⟩
  · injection hv with _ e _; omega
  · injection hv
end Go.Proofs.Ytgckpoecdaioiaa
