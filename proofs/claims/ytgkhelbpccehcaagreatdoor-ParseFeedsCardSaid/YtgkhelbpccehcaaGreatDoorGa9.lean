/- A row that a function gathers: append of one element of any size, by how it runs; bytes turned into a text. Conditions: as each says. -/
import Derived.Test.YtgkhelbpccehcaaGreatDoorRt9
import Derived.Test.YtgkhelbpccehcaaGreatDoorOpen
import Derived.Laws.IdiomStrings
import Derived.Laws.BytesArg
namespace Go.Proofs.YtgkhelbpccehcaaGreatDoor
open Go.RowKit
set_option linter.unusedVariables false

/-- A row of n elements of a type that a function of w0 has gathered. -/
structure Gat (w0 : World) (t : TypeId) (size : Nat) (n : Nat) (xs : List Value) (v : Value) (w : World) : Prop where
  row : w.ownsRow w0.heap.size t size v n xs
  low : Below w0.heap.size w0 w
theorem Gat.below {w0 w w' : World} {t : TypeId} {size n : Nat} {xs : List Value} {v : Value} (h : Gat w0 t size n xs v w) (hb : Below w.heap.size w w') : Gat w0 t size n xs v w' :=
  ⟨h.row.kept (row := none) ⟨hb.os, hb.tape, hb.output, hb.size, fun k hk _ => hb.block k hk⟩ (by rcases h.row.2 with ⟨rfl, _⟩ | ⟨g, cap, cur, rfl, _⟩ <;> simp [Value.ownBlock]), h.low.trans (hb.mono h.low.size)⟩
theorem Gat.form {w0 w : World} {t : TypeId} {size n : Nat} {xs : List Value} {v : Value} (h : Gat w0 t size n xs v w) : ∃ a c, v = .slice a n c := by
  rcases h.row.2 with ⟨hv, h0⟩ | ⟨g, cap, cur, rfl, _⟩
  · exact ⟨none, 0, by rw [hv, h0]⟩
  · exact ⟨_, _, rfl⟩
theorem cells_new (w : World) (l : List Value) (t : TypeId) : ∀ (j : Nat) u, l[j]? = some u → (w.alloc (.cells l.toArray t)).cell? ((⟨w.heap.size, 0, none⟩ : Addr).add j) = some u := by
  intro j u hj
  rw [add_none]
  have e := World.alloc_heap_new w (.cells l.toArray t)
  simp only [World.cell?, e]
  simpa using hj
theorem app_gat {w0 w : World} {st t : TypeId} {z : Value} {size bytes n : Nat} {xs : List Value} {v : Value} (h : Gat w0 t size n xs v w) (hu : Tryz.prog.underlying st = some (.slice t))
    (hinfo : (Tryz.prog.info? t).map (fun i => (i.zero, i.size, i.bytes)) = some (some z, size, bytes)) (hz : z.cells.size = size) (h0 : 0 < size) (hroom : n + 1 ≤ 1000000) (hby : bytes ≤ 1000)
    (l : List Value) (hl : l.length = size) (h1 : ∀ u ∈ l, u.oneCell' = true) :
    ∃ (g n' c' : Nat) (w' : World), (Builtin.append_ #[st, st] st #[v, .slice (some ⟨w.heap.size, 0, none⟩) 1 1]).run Tryz.prog (w.alloc (.cells l.toArray t)) = .ok (.slice (some ⟨g, 0, none⟩) n' c') w' ∧
      Gat w0 t size (n + 1) (xs ++ l) (.slice (some ⟨g, 0, none⟩) n' c') w' := by
  obtain ⟨i0, hi, hz0, hz1, hz2⟩ := info_parts hinfo
  obtain ⟨v', w5, hrun, hown', hgrow, -, -⟩ := run_append_own_at (P := Tryz.prog) (w := w.alloc (.cells l.toArray t)) w0.heap.size st st t i0 z size bytes hu hi hz0 hz1 hz2 hz h0
    v n xs (h.row.alloc _) ⟨w.heap.size, 0, none⟩ 1 1 l (by omega) (cells_new w l t) h1 (by unfold maxLen; omega) (by have := Nat.mul_le_mul hroom hby; omega) (by have := h.low.size; simp; omega)
  obtain ⟨g, c', rfl⟩ := ownsRow_succ hown'
  exact ⟨g, _, c', w5, hrun, hown', (h.low.alloc h.low.size _).grown hgrow (by have := h.low.size; simp; omega) fun k e => (h.row.lt k e).1⟩

def bys (l : List UInt8) : List Value := l.map fun c => Value.int .u8 (c.toNat : Int)
theorem bys_len (l : List UInt8) : (bys l).length = l.length := by simp [bys]
theorem infoU8 : (Tryz.prog.info? 5).map (fun i => (i.zero, i.size, i.bytes)) = some (some (.int .u8 0), 1, 1) := by kernel_rfl
/-- Bytes that were gathered. -/
def GB (w0 : World) (l : List UInt8) (v : Value) (w : World) : Prop := Gat w0 5 1 l.length (bys l) v w
theorem app_byte {w0 w : World} {l : List UInt8} {v : Value} (h : GB w0 l v w) (hroom : l.length + 1 ≤ 1000000) (c : UInt8) :
    ∃ (g n' c' : Nat) (w' : World), (Builtin.append_ #[22, 22] 22 #[v, .slice (some ⟨w.heap.size, 0, none⟩) 1 1]).run Tryz.prog (w.alloc (.cells #[.int .u8 (c.toNat : Int)] 5)) = .ok (.slice (some ⟨g, 0, none⟩) n' c') w' ∧
      GB w0 (l ++ [c]) (.slice (some ⟨g, 0, none⟩) n' c') w' := by
  obtain ⟨g, n', c', w', hr, hg⟩ := app_gat h Tryz.underlying22 infoU8 rfl (by decide) hroom (by decide) [.int .u8 (c.toNat : Int)] rfl (by simp [Value.oneCell'])
  refine ⟨g, n', c', w', hr, ?_⟩
  unfold GB
  rw [List.length_append, show bys (l ++ [c]) = bys l ++ [.int .u8 (c.toNat : Int)] by simp [bys]]; exact hg
theorem conv_gat {w0 w : World} {l : List UInt8} {v : Value} (h : GB w0 l v w) : (convert 22 9 v).run Tryz.prog w = .ok (.string ⟨l.toArray⟩) w := by
  rcases h.row.2 with ⟨rfl, h0⟩ | ⟨g, cap, cur, rfl, hb, hg, hn, hm, hc, ht⟩
  · obtain rfl : l = [] := List.eq_nil_of_length_eq_zero h0
    exact run_convert_bytes_nil w 22 5 Tryz.underlying22 Tryz.underlying5 0 0 9 Tryz.underlying9
  · refine run_convert_bytes_back w 22 9 5 ⟨g, 0, none⟩ cap l Tryz.underlying22 Tryz.underlying5 Tryz.underlying9 fun j hj => ?_
    have e : cur.toList[j]? = some (.int .u8 (l[j].toNat : Int)) := by
      have h1 : (cur.toList.take (l.length * 1))[j]? = (bys l)[j]? := by rw [ht]
      rw [List.getElem?_take, if_pos (by omega)] at h1
      rw [h1]; simp [bys, hj]
    rw [add_none, Nat.zero_add]
    have e2 : cur[j]? = some (.int .u8 (l[j].toNat : Int)) := by rw [← Array.getElem?_toList]; exact e
    simp only [World.cell?, hg]
    simp [e2]
theorem gb_nil (w : World) : GB w [] (.slice none 0 0) w := ⟨World.ownsRow_nil _ _ _ _, Below.refl _ _⟩
theorem make_cap (n : Nat) (h : n ≤ 1000000) (w : World) : (Instr.makeSlice 22 (.int .i64 0) (.int .i64 (n : Int))).run Tryz.prog w =
    .ok (.slice (some ⟨w.heap.size, 0, none⟩) 0 n) (w.alloc (.cells (madeCells #[.int .u8 0] n) 5)) := by
  obtain ⟨i, hi, hz, hs, hb⟩ := info_parts infoU8
  have := run_make (P := Tryz.prog) w 22 5 i (.int .u8 0) Tryz.underlying22 hi hz .i64 .i64 0 n (by omega) (by omega) (by rw [hb]; omega) (by omega)
  simpa [hs, Value.cells] using this
theorem gb_made (w : World) (n : Nat) (h : n ≤ 1000000) : GB w [] (.slice (some ⟨w.heap.size, 0, none⟩) 0 n) (w.alloc (.cells (madeCells #[.int .u8 0] n) 5)) :=
  ⟨World.ownsRow_made w (madeCells #[.int .u8 0] n) n (Nat.le_refl _) (by unfold maxLen; omega) (by simp [madeCells]), (Below.refl _ w).alloc (Nat.le_refl _) _⟩
end Go.Proofs.YtgkhelbpccehcaaGreatDoor
