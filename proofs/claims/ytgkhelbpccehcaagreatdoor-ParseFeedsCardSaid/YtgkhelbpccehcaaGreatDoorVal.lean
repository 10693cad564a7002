/- The code's IsValue answers whether a text is a value. Conditions: a text that can be read. -/
import Derived.Test.YtgkhelbpccehcaaGreatDoorTok
namespace Go.Proofs.YtgkhelbpccehcaaGreatDoor
open Go.RowKit
set_option linter.unusedVariables false

/-- A byte of a value. -/
def valB (c : UInt8) : Bool := decide (c.toNat = 9) || (decide (32 ≤ c.toNat) && !decide (c.toNat = 127))
def valL (l : List UInt8) : Bool := l.all valB
theorem val_1 {c : UInt8} (h : c.toNat = 9) : valB c = true := by simp [valB, h]
theorem val_2 {c : UInt8} (h : 32 ≤ c.toNat) (h2 : c.toNat ≠ 127) : valB c = true := by simp [valB, h, h2]
theorem val_3 {c : UInt8} (h : c.toNat ≠ 9) (h2 : c.toNat < 32) : valB c = false := by simp [valB, h]; omega
theorem val_4 {c : UInt8} (h : c.toNat = 127) : valB c = false := by simp [valB, h]

set_option maxRecDepth 10000 in
theorem val_a (c : UInt8) (w : World) : Calls Tryz.prog 140 #[.int .u8 (c.toNat : Int)] w fun e w' => e = .returned (.bool (valB c)) ∧ w = w' := by
  have hb : (c.toNat : Int) < 256 := by have := c.toNat_lt; omega
  have h0 : (0 : Int) ≤ (c.toNat : Int) := by omega
  rcases (by omega : (c.toNat : Int) = 9 ∨ ((c.toNat : Int) ≠ 9 ∧ (c.toNat : Int) < 32) ∨ (32 ≤ (c.toNat : Int) ∧ (c.toNat : Int) ≠ 127) ∨ (c.toNat : Int) = 127) with h | ⟨h, h2⟩ | ⟨h, h2⟩ | h
  · have h1 : ((c.toNat : Int) == 9) = true := by simp; omega
    have HV := Lib.hid (val_1 (c := c) (by omega))
    clear h
    go_enter Tryz.func140, Tryz.ntmps140
    go_wp2
    go_ret
    exact ⟨ret_bool HV.out.symm, rfl⟩
  · have h1 : ((c.toNat : Int) == 9) = false := by simp; omega
    have HV := Lib.hid (val_3 (c := c) (by omega) (by omega))
    clear h
    go_enter Tryz.func140, Tryz.ntmps140
    go_wp2
    go_ret
    exact ⟨ret_bool HV.out.symm, rfl⟩
  · have h1 : ((c.toNat : Int) == 9) = false := by simp; omega
    have h3 : ((c.toNat : Int) != 127) = true := by simp; omega
    have HV := Lib.hid (val_2 (c := c) (by omega) (by omega))
    clear h2
    go_enter Tryz.func140, Tryz.ntmps140
    go_wp2
    go_ret
    exact ⟨ret_bool HV.out.symm, rfl⟩
  · have h1 : ((c.toNat : Int) == 9) = false := by simp; omega
    have h3 : ((c.toNat : Int) != 127) = false := by simp; omega
    have h4 : 32 ≤ (c.toNat : Int) := by omega
    have HV := Lib.hid (val_4 (c := c) (by omega))
    clear h
    go_enter Tryz.func140, Tryz.ntmps140
    go_wp2
    go_ret
    exact ⟨ret_bool HV.out.symm, rfl⟩

theorem valL_no {s : ByteArray} (k : Nat) (h : k < s.size) (ht : valB s[k] = false) : valL s.data.toList = false := by
  unfold valL
  rw [List.all_eq_false]
  exact ⟨s[k], List.getElem_mem (by exact h), by simp [ht]⟩
set_option maxRecDepth 10000 in
theorem isval_a (s : ByteArray) (w : World) (hs : s.size ≤ maxLen) :
    Calls Tryz.prog 123 #[.string s] w fun e w' => e = .returned (.bool (valL s.data.toList)) ∧ w = w' := by
  unfold maxLen at hs
  go_enter Tryz.func123, Tryz.ntmps123
  go_wp2
  go_loop [6] (fun i => ∃ (k : Nat), k ≤ s.size ∧ i = .int .i64 k ∧ (s.data.toList.take k).all valB = true) (fun i => s.size - (intOf i).toNat)
  case atStart => exact ⟨0, Nat.zero_le _, rfl, rfl⟩
  case round =>
    obtain ⟨k, hk, rfl, hall⟩ := hrel
    have HA := Lib.hid hall
    clear hall
    by_cases hlt : k < s.size
    · by_cases ht : valB s[k] = true
      · have HT := Lib.hid ht
        go_wp2_with (go_at_call 140; refine (val_a _ _).mono ?_; rintro e w' ⟨rfl, rfl⟩)
        go_round
        case rel => exact ⟨k + 1, by omega, by go_num, by rw [take_snoc s k hlt, List.all_append, HA.out]; simp [HT.out]⟩
        case measure => simp [intOf]; omega
      · have ht : valB s[k] = false := by simpa using ht
        have HT := Lib.hid ht
        go_wp2_with (go_at_call 140; refine (val_a _ _).mono ?_; rintro e w' ⟨rfl, rfl⟩)
        go_ret
        exact ⟨ret_bool (valL_no k hlt HT.out).symm, rfl⟩
    · go_wp2
      go_ret
      exact ⟨ret_bool (by unfold valL; rw [← HA.out, List.take_of_length_le (by rw [len_data]; omega)]), rfl⟩
end Go.Proofs.YtgkhelbpccehcaaGreatDoor
