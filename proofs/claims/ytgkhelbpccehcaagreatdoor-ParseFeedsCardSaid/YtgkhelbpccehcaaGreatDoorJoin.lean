/- The code's Join answers the texts one behind the other. Conditions: at most 2^47 bytes in all. -/
import Derived.Test.YtgkhelbpccehcaaGreatDoorTok
namespace Go.Proofs.YtgkhelbpccehcaaGreatDoor
open Go.RowKit
set_option linter.unusedVariables false

/-- The bytes of the first k texts, one behind the other. -/
def joinF (f : Nat → ByteArray) : Nat → List UInt8
  | 0 => []
  | k + 1 => joinF f k ++ (f k).data.toList
theorem joinF_le (f : Nat → ByteArray) (k n : Nat) (h : k ≤ n) : (joinF f k).length ≤ (joinF f n).length := by
  induction n with
  | zero => obtain rfl : k = 0 := by omega
            exact Nat.le_refl _
  | succ n ih =>
    by_cases e : k = n + 1
    · subst e; exact Nat.le_refl _
    · have := ih (by omega); simp only [joinF, List.length_append]; omega
theorem joinF_succ (f : Nat → ByteArray) (k : Nat) : (joinF f (k + 1)).length = (joinF f k).length + (f k).size := by
  simp only [joinF, List.length_append]; rfl
theorem cells_join (f : Nat → ByteArray) (k : Nat) : Lib.byteCells (joinF f k) ++ Lib.strCells (f k) = Lib.byteCells (joinF f (k + 1)) := by
  simp [Lib.byteCells, Lib.strCells, joinF]

set_option maxRecDepth 10000 in
theorem join_a (b off cap len : Nat) (f : Nat → ByteArray) (w : World) (hb : b < w.heap.size) (hl : len ≤ maxLen) (hc : ∀ j, j < len → w.cell? ⟨b, off + j, none⟩ = some (.string (f j)))
    (ht : (joinF f len).length ≤ 140737488355328) :
    Calls Tryz.prog 155 #[.slice (some ⟨b, off, none⟩) len cap] w fun e w' => e = .returned (.string ⟨(joinF f len).toArray⟩) ∧ Below w.heap.size w w' := by
  unfold maxLen at hl
  have h0 := Lib.fresh_isBuilder 187 5 w
  have h0' := (Below.refl w.heap.size w).alloc (Nat.le_refl _) (.cells #[.pointer none, .slice none 0 0] 187)
  have H0 := Lib.hid h0
  have H0' := Lib.hid h0'
  have HT := Lib.hid ht
  have HC := Lib.hid hc
  clear h0 h0' ht hc
  go_enter Tryz.func155, Tryz.ntmps155
  go_wp2
  go_loopw [8] (fun i wr => ∃ (k : Nat), k ≤ len ∧ i = .int .i64 k ∧ Lib.IsBuilder 187 5 w.heap.size w.heap.size (Lib.byteCells (joinF f k)) wr ∧ Below w.heap.size w wr) (fun i _ => len - (intOf i).toNat)
  case atStart => exact ⟨0, Nat.zero_le _, rfl, H0.out, H0'.out⟩
  case round =>
    obtain ⟨k, hk, rfl, hm, hbel⟩ := hrel
    have HM := Lib.hid hm
    have HB := Lib.hid hbel
    have hz := hbel.size
    clear hm hbel
    by_cases hlt : k < len
    · have hcell : wr.cell? ⟨b, off + k, none⟩ = some (.string (f k)) := by
        rw [HB.out.cell (by exact hb)]; exact HC.out k hlt
      have hle : (Lib.byteCells (joinF f k)).length + (f k).size ≤ 140737488355328 := by
        have h1 := joinF_le f (k + 1) len (by omega)
        have h2 := HT.out
        rw [joinF_succ] at h1
        simp only [Lib.byteCells, List.length_map]; omega
      have HL := Lib.hid hle
      clear hle
      go_wp2_with (go_at_call 187; refine (builder_write _ _ _ _ _ HM.out HL.out hz).mono ?_; rintro e w1 ⟨rfl, hb1, hbel1⟩; have HM1 := Lib.hid hb1; have HB1 := Lib.hid hbel1; clear hb1 hbel1)
      go_roundw
      case rel => exact ⟨k + 1, by omega, by go_num, by rw [← cells_join]; exact Or.inr HM1.out, HB.out.trans HB1.out⟩
      case measure => simp [intOf]; omega
    · obtain rfl : k = len := by omega
      go_wp2_with (go_at_call 188; refine (builder_string _ _ _ _ HM.out hz).mono ?_; rintro e w1 ⟨rfl, hbel1⟩; have HB1 := Lib.hid hbel1; clear hbel1)
      go_ret
      exact ⟨rfl, HB.out.trans HB1.out⟩
set_option maxRecDepth 10000 in
theorem join_nil (a : Option Addr) (cap : Nat) (w : World) :
    Calls Tryz.prog 155 #[.slice a 0 cap] w fun e w' => e = .returned (.string ⟨#[]⟩) ∧ Below w.heap.size w w' := by
  have h0 := Lib.fresh_isBuilder 187 5 w
  have h0' := (Below.refl w.heap.size w).alloc (Nat.le_refl _) (.cells #[.pointer none, .slice none 0 0] 187)
  have H0 := Lib.hid h0
  have H0' := Lib.hid h0'
  clear h0 h0'
  go_enter Tryz.func155, Tryz.ntmps155
  go_wp2
  refine wp_loop_rounds 1 ?_
  rw [rounds_succ]
  go_wp2_with (go_at_call 188; refine (builder_string _ _ [] _ H0.out (by simp)).mono ?_; rintro e w1 ⟨rfl, hbel1⟩; have HB1 := Lib.hid hbel1; clear hbel1)
  go_ret
  exact ⟨rfl, H0'.out.trans HB1.out⟩
end Go.Proofs.YtgkhelbpccehcaaGreatDoor
