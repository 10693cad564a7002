/- The code's Lower answers the text in small letters and changes nothing that was there. Conditions: a text that can be read. -/
import Derived.Test.YtgkhelbpccehcaaGreatDoorLow
import Derived.Laws.IdiomStrings
namespace Go.Proofs.YtgkhelbpccehcaaGreatDoor
open Go.RowKit
set_option linter.unusedVariables false

/-- Byte j when k bytes have been made small. -/
def mixB (s : ByteArray) (k j : Nat) : UInt8 := if j < k then lowB (s.data.toList.getD j 0) else s.data.toList.getD j 0
def lowL (l : List UInt8) : List UInt8 := l.map lowB
theorem getD_at (s : ByteArray) (k : Nat) (h : k < s.size) : s.data.toList.getD k 0 = s[k] := by
  rw [List.getD_eq_getElem?_getD, List.getElem?_eq_getElem (by exact h)]; rfl
theorem mixB_zero (s : ByteArray) (j : Nat) : mixB s 0 j = s.data.toList.getD j 0 := by simp [mixB]
theorem mixB_self (s : ByteArray) (k : Nat) (h : k < s.size) : mixB s k k = s[k] := by unfold mixB; rw [if_neg (by omega), getD_at s k h]
theorem mixB_new (s : ByteArray) (k : Nat) (h : k < s.size) : mixB s (k + 1) k = lowB s[k] := by unfold mixB; rw [if_pos (by omega), getD_at s k h]
theorem mixB_other (s : ByteArray) (k j : Nat) (h : j ≠ k) : mixB s (k + 1) j = mixB s k j := by
  unfold mixB; by_cases e : j < k
  · rw [if_pos (by omega), if_pos e]
  · rw [if_neg (by omega), if_neg e]
theorem mixB_all (s : ByteArray) (j : Nat) (h : j < (lowL s.data.toList).length) : mixB s s.size j = (lowL s.data.toList)[j] := by
  have h' : j < s.size := by simpa [lowL] using h
  rw [show mixB s s.size j = lowB (s.data.toList.getD j 0) by simp [mixB, h'], getD_at s j h']
  simp only [lowL, List.getElem_map]; rfl
theorem lowL_length (s : ByteArray) : (lowL s.data.toList).length = s.size := by unfold lowL; rw [List.length_map]; rfl

/-- The cells of the bytes while they are made small. -/
def Mixed (B : Nat) (s : ByteArray) (k : Nat) (w wr : World) : Prop :=
  Below B w wr ∧ B < wr.heap.size ∧ (∀ j, j < s.size → wr.cell? ⟨B, j, none⟩ = some (.int .u8 ((mixB s k j).toNat : Int))) ∧ ∀ j, j < s.size → wr.frozen? ⟨B, j, none⟩ = false

theorem mixed_start (w : World) (s : ByteArray) (cap : Nat) (h : s.size ≤ cap) :
    Mixed w.heap.size s 0 w (w.alloc (.cells (bytesRow s cap) 5 ((bytesRow s cap).size, (bytesRow s cap).size + 1))).drew := by
  refine ⟨((Below.refl _ _).alloc (Nat.le_refl _) _).drew, by simp, fun j hj => ?_, fun j hj => ?_⟩
  · show (w.alloc _).cell? _ = _
    rw [World.cell?_alloc_mark, bytesRow_at s cap j hj, mixB_zero, getD_at s j hj]; rfl
  · show (w.alloc _).frozen? _ = _
    rw [World.frozen?_alloc_mark]
    have : (bytesRow s cap).size = cap := by unfold bytesRow; rw [Array.size_append, Array.size_map, Array.size_replicate]; show s.size + (cap - s.size) = cap; omega
    rw [this]; simp; omega
theorem mixed_next {B : Nat} {s : ByteArray} {k : Nat} {w wr : World} (h : Mixed B s k w wr) (hk : k < s.size) :
    Mixed B s (k + 1) w (wr.setCell ⟨B, k, none⟩ (.int .u8 ((lowB s[k]).toNat : Int))) := by
  obtain ⟨hb, hz, hc, hf⟩ := h
  refine ⟨hb.setCell (Nat.le_refl _) _, by simpa using hz, fun j hj => ?_, fun j hj => ?_⟩
  · by_cases e : j = k
    · subst e
      rw [mixB_new s j hj]
      exact World.cell?_setCell_same (h := hc j hj) ..
    · rw [mixB_other s k j e, ← hc j hj]
      exact World.cell?_setCell_other (h := fun x => e (by injection x with _ x2; exact x2.symm)) ..
  · rw [World.frozen?_setCell]; exact hf j hj
theorem mixed_back {P : Program} {src dst e : TypeId} {B : Nat} {s : ByteArray} {w wr : World} (cap : Nat) (h : Mixed B s s.size w wr) (hs : P.underlying src = some (.slice e)) (he : P.underlying e = some (.int .u8)) (hd : P.underlying dst = some .string) :
    (convert src dst (.slice (some ⟨B, 0, none⟩) s.size cap)).run P wr = .ok (.string ⟨(lowL s.data.toList).toArray⟩) wr := by
  have := run_convert_bytes_back (P := P) wr src dst e ⟨B, 0, none⟩ cap (lowL s.data.toList) hs he hd (fun j hj => by
    have h2 := h.2.2.1 j (by rw [lowL_length] at hj; exact hj)
    rw [mixB_all s j hj] at h2
    rw [show (⟨B, 0, none⟩ : Addr).add j = ⟨B, j, none⟩ by unfold Addr.add; split <;> simp_all]
    exact h2)
  rw [lowL_length] at this; exact this
theorem ret_str {a b : ByteArray} (h : a = b) : Ending.returned (.string a) = .returned (.string b) := by rw [h]

set_option maxRecDepth 10000 in
theorem lower_a (s : ByteArray) (w : World) (hs : s.size ≤ maxLen) :
    Calls Tryz.prog 150 #[.string s] w fun e w' => e = .returned (.string ⟨(lowL s.data.toList).toArray⟩) ∧ Below w.heap.size w w' := by
  unfold maxLen at hs
  have hcv := run_bytes_of_string (P := Tryz.prog) w 9 22 5 s Tryz.underlying9 Tryz.underlying22 Tryz.underlying5
  have hg := grownCap_ge w s.size 0 5
  go_enter Tryz.func150, Tryz.ntmps150
  go_wp2
  have hM := mixed_start w s (grownCap w s.size 0 5) (by omega)
  obtain ⟨cap, hcap⟩ : ∃ cap, cap = grownCap w s.size 0 5 := ⟨_, rfl⟩
  rw [← hcap] at hM
  rw [← hcap]
  clear hcv hg hcap
  have HM := Lib.hid hM
  clear hM
  go_loopw [10] (fun i wr => ∃ (k : Nat), k ≤ s.size ∧ i = .int .i64 k ∧ Mixed w.heap.size s k w wr) (fun i _ => s.size - (intOf i).toNat)
  case atStart => exact ⟨0, Nat.zero_le _, rfl, HM.out⟩
  case round =>
    obtain ⟨k, hk, rfl, hm⟩ := hrel
    by_cases hlt : k < s.size
    · have hc := hm.2.2.1 k hlt
      rw [mixB_self s k hlt] at hc
      have hf := hm.2.2.2 k hlt
      have HN := Lib.hid (mixed_next hm hlt)
      clear hm
      go_wp2_with (go_at_call 145; refine (low_a _ _).mono ?_; rintro e w' ⟨rfl, rfl⟩)
      go_roundw
      case rel => exact ⟨k + 1, by omega, by go_num, HN.out⟩
      case measure => simp [intOf]; omega
    · obtain rfl : k = s.size := by omega
      have hback := mixed_back (P := Tryz.prog) cap hm Tryz.underlying22 Tryz.underlying5 Tryz.underlying9
      have HB := Lib.hid hm.1
      clear hm
      go_wp2
      go_ret
      exact ⟨rfl, HB.out⟩
end Go.Proofs.YtgkhelbpccehcaaGreatDoor
