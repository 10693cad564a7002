/- All and Drop of the code, the library's DeleteFunc with the code's closure. Conditions: texts of at most a million bytes, 24 fields. -/
import Derived.Test.YtjoineomkdiekaaGreatDoorFd10
import Derived.Laws.MakeOwn
import Derived.WalkLawsBesides
namespace Go.Proofs.YtjoineomkdiekaaGreatDoor
open Go.RowKit
set_option linter.unusedVariables false
set_option linter.unusedSimpArgs false

theorem made_f (n : Nat) (h : n ≤ 1000000) (w : World) : (Instr.makeSlice 29 (.int .i64 (n : Int)) (.int .i64 (n : Int))).run Tryz.prog w =
    .ok (.slice (some ⟨w.heap.size, 0, none⟩) n n) (w.alloc (.cells (madeCells #[.string ByteArray.empty, .string ByteArray.empty] (n * 2)) 49)) := by
  obtain ⟨i, hi, hz, hs, hb⟩ := info_parts infoFl
  have := run_make (P := Tryz.prog) w 29 49 i _ Tryz.underlying29 hi hz .i64 .i64 n n (by omega) (by omega) (by rw [hb]; omega) (by omega)
  simpa [hs, Value.cells] using this
theorem made_z (w : World) : (Instr.makeSlice 29 (.int .i64 0) (.int .i64 0)).run Tryz.prog w =
    .ok (.slice (some ⟨w.heap.size, 0, none⟩) 0 0) (w.alloc (.cells (madeCells #[.string ByteArray.empty, .string ByteArray.empty] (0 * 2)) 49)) := made_f 0 (by omega) w
/-- Two cells of an array. -/
theorem set_two (l : List Value) (k : Nat) (x y : Value) (h : k * 2 + 2 ≤ l.length) : ((l.set (k * 2) x).set (k * 2 + 1) y).take ((k + 1) * 2) = l.take (k * 2) ++ [x, y] := by
  rw [show (k + 1) * 2 = k * 2 + 1 + 1 by omega, List.take_succ_eq_append_getElem (by simp; omega), List.take_set_of_le (Nat.le_refl _), List.take_succ_eq_append_getElem (by simp; omega), List.take_set_of_le (Nat.le_refl _)]
  simp
/-- The fields that are being copied. -/
structure Copying (w : World) (S : List FV) (B k : Nat) (wr : World) : Prop where
  ex : ∃ cur : Array Value, Row wr B 49 cur ∧ cur.size = S.length * 2 ∧ cur.toList.take (k * 2) = encF (S.take k)
  base : w.heap.size ≤ B
  low : Mods [] w wr
theorem Copying.cells {w wr : World} {S : List FV} {B k : Nat} (h : Copying w S B k wr) (j : Nat) (hj : j < S.length * 2) : (∃ u, wr.cell? ⟨B, j, none⟩ = some u) ∧ wr.frozen? ⟨B, j, none⟩ = false := by
  obtain ⟨cur, hr, hs, _⟩ := h.ex
  exact ⟨⟨cur[j]'(by omega), by rw [hr.cell]; exact Array.getElem?_eq_getElem _⟩, hr.free j⟩
theorem Copying.mods {w wr w' : World} {S : List FV} {B k : Nat} (h : Copying w S B k wr) (hm : Mods [] wr w') : Copying w S B k w' := by
  obtain ⟨cur, hr, r⟩ := h.ex
  exact ⟨⟨cur, hr.mods hm (by simp), r⟩, h.base, h.low.trans hm (fun _ h => nomatch h)⟩
theorem Copying.next {w wr : World} {S : List FV} {B k : Nat} (h : Copying w S B k wr) (hk : k < S.length) :
    Copying w S B (k + 1) ((wr.setCell ⟨B, k * 2, none⟩ (.string S[k].1)).setCell ⟨B, k * 2 + 1, none⟩ (.string S[k].2)) := by
  obtain ⟨cur, hr, hs, ht⟩ := h.ex
  refine ⟨⟨_, (hr.set _ _).set _ _, by simpa using hs, ?_⟩, h.base, (h.low.setCell (.inr h.base) _).setCell (.inr h.base) _⟩
  rw [Array.toList_setIfInBounds, Array.toList_setIfInBounds, set_two _ _ _ _ (by simp; omega), ht, List.take_succ_eq_append_getElem hk, encF_append]
  rfl
theorem Copying.all {w wr : World} {S : List FV} {B : Nat} (h : Copying w S B S.length wr) (hl : S.length ≤ 1000000) : Gt w 49 2 S.length (encF S) (.slice (some ⟨B, 0, none⟩) S.length S.length) wr := by
  obtain ⟨cur, hr, hs, ht⟩ := h.ex
  exact ⟨⟨encF_len S, .inr ⟨B, S.length, cur, rfl, h.base, hr, Nat.le_refl _, by unfold maxLen; omega, hs, by rw [ht, List.take_length]⟩⟩, h.low⟩
theorem Copying.start {w : World} {S : List FV} : Copying w S w.heap.size 0 (w.alloc (.cells (madeCells #[.string ByteArray.empty, .string ByteArray.empty] (S.length * 2)) 49)) :=
  ⟨⟨_, Row.new _ _ _, by simp [madeCells], by simp [encF]⟩, Nat.le_refl _, (Mods.refl [] w).alloc _⟩

set_option maxRecDepth 10000 in
theorem all_a {g : Nat} {v : Value} {S : List FV} (w : World) (h : Fld 81 w g v S) :
    Calls Tryz.prog 17 #[ptr g] w fun e w' => ∃ B, e = .returned (.slice (some ⟨B, 0, none⟩) S.length S.length) ∧ Gt w 49 2 S.length (encF S) (.slice (some ⟨B, 0, none⟩) S.length S.length) w' := by
  have HK := Lib.hid (fun w' h' => kept_a (g := g) (v := v) (S := S) w' h')
  have HL := Lib.hid (len_a w h)
  have hl := h.len
  have hmk := made_f S.length (by omega) w
  have HMK := Lib.hid (Copying.start (w := w) (S := S))
  have H := Lib.hid (h.low ((Mods.refl [] w).alloc (.cells (madeCells #[.string ByteArray.empty, .string ByteArray.empty] (S.length * 2)) 49)))
  obtain ⟨W0, hW0⟩ : ∃ W0, W0 = w.alloc (.cells (madeCells #[.string ByteArray.empty, .string ByteArray.empty] (S.length * 2)) 49) := ⟨_, rfl⟩
  rw [← hW0] at hmk HMK H
  have hmz : S.length = 0 → (Instr.makeSlice 29 (.int .i64 0) (.int .i64 0)).run Tryz.prog w = .ok (.slice (some ⟨w.heap.size, 0, none⟩) 0 0) W0 := fun h0 => by rw [made_z w, hW0, h0]
  clear hW0
  have HS := Lib.hid h.small
  unfold ptr at *
  by_cases h0 : S.length = 0
  · obtain rfl : S = [] := List.eq_nil_of_length_eq_zero h0
    obtain ⟨a, c, rfl⟩ := h.form
    clear h h0
    have hmz := hmz rfl
    clear hmk
    go_enter Tryz.func17, Tryz.ntmps17
    go_wp2_with (first
      | (go_at_call 33; refine HL.out.mono ?_; rintro e w' ⟨rfl, rfl⟩)
      | (go_at_call 34; refine (HK.out _ H.out).mono ?_; rintro e w' ⟨rfl, rfl⟩))
    refine wp_loop_rounds 1 ?_
    rw [rounds_succ]
    go_wp2
    go_ret
    exact ⟨_, rfl, HMK.out.all (by simp)⟩
  · rcases h.fs with ⟨rfl, _⟩ | ⟨b, off, cap, rfl, -, hb, hc⟩
    · exact absurd rfl h0
    have HC := Lib.hid hc
    clear h hc h0 hmz
    obtain ⟨B, hB⟩ : ∃ B, B = w.heap.size := ⟨_, rfl⟩
    rw [← hB] at HMK hmk
    clear hB
    go_enter Tryz.func17, Tryz.ntmps17
    go_wp2_with (first
      | (go_at_call 33; refine HL.out.mono ?_; rintro e w' ⟨rfl, rfl⟩)
      | (go_at_call 34; refine (HK.out _ H.out).mono ?_; rintro e w' ⟨rfl, rfl⟩))
    clear hmk
    go_loopw [12] (fun i wr => ∃ (k : Nat), k ≤ S.length ∧ i = .int .i64 k ∧ Copying w S B k wr) (fun i _ => S.length - (intOf i).toNat)
    case atStart => exact ⟨0, Nat.zero_le _, rfl, HMK.out⟩
    case round =>
      obtain ⟨k, hk, rfl, hG⟩ := hrel
      have HG := Lib.hid hG
      clear hG
      by_cases hlt : k < S.length
      · have c0 : wr.cell? ⟨b, off + k * 2, none⟩ = some (.string S[k].1) := cell_mods (HC.out k hlt).1 HG.out.low (by simp)
        have c1 : wr.cell? ⟨b, off + k * 2 + 1, none⟩ = some (.string S[k].2) := cell_mods (HC.out k hlt).2 HG.out.low (by simp)
        have HCP := Lib.hid (fun w => copied_a S[k] w (HS.out.at k hlt).1 (HS.out.at k hlt).2)
        have HNX := Lib.hid (fun (w2 : World) (hm : Copying w S B k w2) => hm.next hlt)
        obtain ⟨x, hx⟩ : ∃ x, x = S[k].1 := ⟨_, rfl⟩
        obtain ⟨y, hy⟩ : ∃ y, y = S[k].2 := ⟨_, rfl⟩
        rw [← hx] at c0 HNX HCP
        rw [← hy] at c1 HNX HCP
        clear hx hy
        have hz : wr.heap.size < (wr.alloc (.cells #[.string x, .string y] 49)).heap.size := by simp
        go_wp2_with (go_at_call 35; refine (HCP.out _).mono ?_; rintro e w2 ⟨rfl, hm⟩; have hG2 := (HG.out.mods ((Mods.refl [] wr).alloc _)).mods hm; obtain ⟨⟨d0, e0⟩, f0⟩ := hG2.cells (k * 2) (by omega); obtain ⟨⟨d1, e1⟩, f1⟩ := hG2.cells (k * 2 + 1) (by omega); have HG2 := Lib.hid hG2; clear hm hG2)
        go_roundw
        case rel => exact ⟨k + 1, by omega, by go_num, HNX.out _ HG2.out⟩
        case measure => simp [intOf]; omega
      · obtain rfl : k = S.length := by omega
        go_wp2
        go_ret
        exact ⟨_, rfl, HG.out.all (by omega)⟩
theorem all_nil (w : World) : Calls Tryz.prog 17 #[.pointer none] w fun e w' => ∃ B, e = .returned (.slice (some ⟨B, 0, none⟩) 0 0) ∧ Mods [] w w' := by
  have hmk := made_z w
  have HMK := Lib.hid (Copying.start (w := w) (S := [])).low
  simp only [List.length_nil] at HMK
  obtain ⟨W0, hW0⟩ : ∃ W0, W0 = w.alloc (.cells (madeCells #[.string ByteArray.empty, .string ByteArray.empty] (0 * 2)) 49) := ⟨_, rfl⟩
  rw [← hW0] at hmk HMK
  clear hW0
  go_enter Tryz.func17, Tryz.ntmps17
  go_wp2_with (first
    | (go_at_call 33; refine (len_nil _).mono ?_; rintro e w' ⟨rfl, rfl⟩)
    | (go_at_call 34; refine (kept_nil _).mono ?_; rintro e w' ⟨rfl, rfl⟩))
  refine wp_loop_rounds 1 ?_
  rw [rounds_succ]
  go_wp2
  go_ret
  exact ⟨_, rfl, HMK.out⟩
end Go.Proofs.YtjoineomkdiekaaGreatDoor
