/- All and Drop of the code, the library's DeleteFunc with the code's closure. Conditions: texts of at most a million bytes, 24 fields. -/
import Derived.Test.YtcliapfoimnkiaaGreatDoorFd10
import Derived.Laws.MakeOwn
import Derived.WalkLawsBesides
namespace Go.Proofs.YtcliapfoimnkiaaGreatDoor
open Go.RowKit
set_option linter.unusedVariables false
set_option linter.unusedSimpArgs false

theorem made_f (n : Nat) (h : n ≤ 1000000) (w : World) : (Instr.makeSlice 22 (.int .i64 (n : Int)) (.int .i64 (n : Int))).run Tryz.prog w =
    .ok (.slice (some ⟨w.heap.size, 0, none⟩) n n) (w.alloc (.cells (madeCells #[.string ByteArray.empty, .string ByteArray.empty] (n * 2)) 35)) := by
  obtain ⟨i, hi, hz, hs, hb⟩ := info_parts infoFl
  have := run_make (P := Tryz.prog) w 22 35 i _ Tryz.underlying22 hi hz .i64 .i64 n n (by omega) (by omega) (by rw [hb]; omega) (by omega)
  simpa [hs, Value.cells] using this
theorem made_z (w : World) : (Instr.makeSlice 22 (.int .i64 0) (.int .i64 0)).run Tryz.prog w =
    .ok (.slice (some ⟨w.heap.size, 0, none⟩) 0 0) (w.alloc (.cells (madeCells #[.string ByteArray.empty, .string ByteArray.empty] (0 * 2)) 35)) := made_f 0 (by omega) w
/-- Two cells of an array. -/
theorem set_two (l : List Value) (k : Nat) (x y : Value) (h : k * 2 + 2 ≤ l.length) : ((l.set (k * 2) x).set (k * 2 + 1) y).take ((k + 1) * 2) = l.take (k * 2) ++ [x, y] := by
  rw [show (k + 1) * 2 = k * 2 + 1 + 1 by omega, List.take_succ_eq_append_getElem (by simp; omega), List.take_set_of_le (Nat.le_refl _), List.take_succ_eq_append_getElem (by simp; omega), List.take_set_of_le (Nat.le_refl _)]
  simp
/-- The fields that are being copied. -/
structure Copying (w : World) (S : List FV) (B k : Nat) (wr : World) : Prop where
  ex : ∃ cur : Array Value, Row wr B 35 cur ∧ cur.size = S.length * 2 ∧ cur.toList.take (k * 2) = encF (S.take k)
  base : w.heap.size ≤ B
  low : Mods [] w wr
theorem Copying.cells {w wr : World} {S : List FV} {B k : Nat} (h : Copying w S B k wr) (j : Nat) (hj : j < S.length * 2) : (∃ u, wr.cell? ⟨B, j, none⟩ = some u) ∧ wr.frozen? ⟨B, j, none⟩ = false := by
  obtain ⟨cur, hr, hs, _⟩ := h.ex
  exact ⟨⟨cur[j]'(by omega), by rw [hr.cell]; exact Array.getElem?_eq_getElem _⟩, hr.free j⟩
theorem Copying.mods {w wr w' : World} {S : List FV} {B k : Nat} (h : Copying w S B k wr) (hm : Mods [] wr w') : Copying w S B k w' := by
  obtain ⟨cur, hr, r⟩ := h.ex
  exact ⟨⟨cur, hr.mods hm (by simp), r⟩, h.base, h.low.trans hm (fun _ h => nomatch h)⟩
theorem Copying.next {w wr : World} {S : List FV} {B k : Nat} (h : Copying w S B k wr) (hk : k < S.length) :
    Copying w S B (k + 1) ((wr.setCell ⟨B, k * 2, none⟩ (.string S[k].1)).setCell ⟨B, k * 2 + 1, none⟩ (.string S[k].2)) := by
  obtain ⟨cur, hr, hs, ht⟩ := h.ex
  refine ⟨⟨_, (hr.set _ _).set _ _, by simpa using hs, ?_⟩, h.base, (h.low.setCell (.inr h.base) _).setCell (.inr h.base) _⟩
  rw [Array.toList_setIfInBounds, Array.toList_setIfInBounds, set_two _ _ _ _ (by simp; omega), ht, List.take_succ_eq_append_getElem hk, encF_append]
  rfl
theorem Copying.all {w wr : World} {S : List FV} {B : Nat} (h : Copying w S B S.length wr) (hl : S.length ≤ 1000000) : Gt w 35 2 S.length (encF S) (.slice (some ⟨B, 0, none⟩) S.length S.length) wr := by
  obtain ⟨cur, hr, hs, ht⟩ := h.ex
  exact ⟨⟨encF_len S, .inr ⟨B, S.length, cur, rfl, h.base, hr, Nat.le_refl _, by unfold maxLen; omega, hs, by rw [ht, List.take_length]⟩⟩, h.low⟩
theorem Copying.start {w : World} {S : List FV} : Copying w S w.heap.size 0 (w.alloc (.cells (madeCells #[.string ByteArray.empty, .string ByteArray.empty] (S.length * 2)) 35)) :=
  ⟨⟨_, Row.new _ _ _, by simp [madeCells], by simp [encF]⟩, Nat.le_refl _, (Mods.refl [] w).alloc _⟩

end Go.Proofs.YtcliapfoimnkiaaGreatDoor
