/- The code's and the document's function on one byte both answer the digit that it is, or that it is none, at every byte. Conditions: none. -/
import Derived.Test.YtgkhelbpccehcaaGreatDoorLow
namespace Go.Proofs.YtgkhelbpccehcaaGreatDoor
open Go.RowKit
set_option linter.unusedVariables false

/-- The digit that a byte is; 16: it is none. -/
def digB (c : UInt8) : Int :=
  if 48 ≤ c.toNat ∧ c.toNat ≤ 57 then (c.toNat : Int) - 48
  else if 97 ≤ (lowB c).toNat ∧ (lowB c).toNat ≤ 102 then ((lowB c).toNat : Int) - 87 else 16
/-- The same; -1: it is none. -/
def digR (c : UInt8) : Int :=
  if 48 ≤ c.toNat ∧ c.toNat ≤ 57 then (c.toNat : Int) - 48
  else if 97 ≤ (lowB c).toNat ∧ (lowB c).toNat ≤ 102 then ((lowB c).toNat : Int) - 87 else -1

theorem ret_int {k : IntKind} {a b : Int} (h : a = b) : Ending.returned (.int k a) = .returned (.int k b) := by rw [h]
theorem dig_1 {c : UInt8} (h : 48 ≤ c.toNat) (h2 : c.toNat ≤ 57) : digB c = (c.toNat : Int) - 48 := by unfold digB; rw [if_pos ⟨h, h2⟩]
theorem dig_2 {c : UInt8} (h : ¬ (48 ≤ c.toNat ∧ c.toNat ≤ 57)) (h2 : 97 ≤ (lowB c).toNat) (h3 : (lowB c).toNat ≤ 102) : digB c = ((lowB c).toNat : Int) - 87 := by unfold digB; rw [if_neg h, if_pos ⟨h2, h3⟩]
theorem dig_3 {c : UInt8} (h : ¬ (48 ≤ c.toNat ∧ c.toNat ≤ 57)) (h2 : ¬ (97 ≤ (lowB c).toNat ∧ (lowB c).toNat ≤ 102)) : digB c = 16 := by unfold digB; rw [if_neg h, if_neg h2]
theorem digB_le (c : UInt8) : 0 ≤ digB c ∧ digB c ≤ 16 := by
  unfold digB; split
  · omega
  · split <;> omega
theorem digR_eq (c : UInt8) : digR c = if digB c = 16 then -1 else digB c := by
  unfold digB digR
  split
  · rw [if_neg (by omega)]
  · split
    · rw [if_neg (by omega)]
    · rw [if_pos rfl]

theorem digR_1 {c : UInt8} (h : 48 ≤ c.toNat) (h2 : c.toNat ≤ 57) : digR c = (c.toNat : Int) - 48 := by unfold digR; rw [if_pos ⟨h, h2⟩]
theorem digR_2 {c : UInt8} (h : ¬ (48 ≤ c.toNat ∧ c.toNat ≤ 57)) (h2 : 97 ≤ (lowB c).toNat) (h3 : (lowB c).toNat ≤ 102) : digR c = ((lowB c).toNat : Int) - 87 := by unfold digR; rw [if_neg h, if_pos ⟨h2, h3⟩]
theorem digR_3 {c : UInt8} (h : ¬ (48 ≤ c.toNat ∧ c.toNat ≤ 57)) (h2 : ¬ (97 ≤ (lowB c).toNat ∧ (lowB c).toNat ≤ 102)) : digR c = -1 := by unfold digR; rw [if_neg h, if_neg h2]
set_option maxRecDepth 10000 in
theorem dig_a (c : UInt8) (w : World) : Calls Tryz.prog 211 #[.int .u8 (c.toNat : Int)] w fun e w' => e = .returned (.int .i64 (digB c)) ∧ w = w' := by
  have hb : (c.toNat : Int) < 256 := by have := c.toNat_lt; omega
  have h0 : (0 : Int) ≤ (c.toNat : Int) := by omega
  have hlb : ((lowB c).toNat : Int) < 256 := by have := (lowB c).toNat_lt; omega
  have hl0 : (0 : Int) ≤ ((lowB c).toNat : Int) := by omega
  rcases (by omega : (c.toNat : Int) < 48 ∨ (48 ≤ (c.toNat : Int) ∧ (c.toNat : Int) ≤ 57) ∨ 57 < (c.toNat : Int)) with h1 | ⟨h1, h2⟩ | h1
  case inr.inl =>
    go_enter Tryz.func211, Tryz.ntmps211
    go_wp2_with (go_at_call 145; refine (low_a _ _).mono ?_; rintro e w' ⟨rfl, rfl⟩)
    go_ret
    exact ⟨ret_int (by rw [dig_1 (by omega) (by omega)]), rfl⟩
  all_goals
    rcases (by omega : ((lowB c).toNat : Int) < 97 ∨ (97 ≤ ((lowB c).toNat : Int) ∧ ((lowB c).toNat : Int) ≤ 102) ∨ 102 < ((lowB c).toNat : Int)) with h3 | ⟨h3, h4⟩ | h3
    · go_enter Tryz.func211, Tryz.ntmps211
      go_wp2_with (go_at_call 145; refine (low_a _ _).mono ?_; rintro e w' ⟨rfl, rfl⟩)
      go_ret
      exact ⟨ret_int (by rw [dig_3 (by omega) (by omega)]), rfl⟩
    · go_enter Tryz.func211, Tryz.ntmps211
      go_wp2_with (go_at_call 145; refine (low_a _ _).mono ?_; rintro e w' ⟨rfl, rfl⟩)
      go_ret
      exact ⟨ret_int (by rw [dig_2 (by omega) (by omega) (by omega)]; omega), rfl⟩
    · go_enter Tryz.func211, Tryz.ntmps211
      go_wp2_with (go_at_call 145; refine (low_a _ _).mono ?_; rintro e w' ⟨rfl, rfl⟩)
      go_ret
      exact ⟨ret_int (by rw [dig_3 (by omega) (by omega)]), rfl⟩
set_option maxRecDepth 10000 in
theorem dig_r (c : UInt8) (w : World) : Calls Tryz.prog 93 #[.int .u8 (c.toNat : Int)] w fun e w' => e = .returned (.int .i64 (digR c)) ∧ w = w' := by
  have hb : (c.toNat : Int) < 256 := by have := c.toNat_lt; omega
  have h0 : (0 : Int) ≤ (c.toNat : Int) := by omega
  have hlb : ((lowB c).toNat : Int) < 256 := by have := (lowB c).toNat_lt; omega
  have hl0 : (0 : Int) ≤ ((lowB c).toNat : Int) := by omega
  rcases (by omega : (c.toNat : Int) < 48 ∨ (48 ≤ (c.toNat : Int) ∧ (c.toNat : Int) ≤ 57) ∨ 57 < (c.toNat : Int)) with h1 | ⟨h1, h2⟩ | h1
  case inr.inl =>
    go_enter Tryz.func93, Tryz.ntmps93
    go_wp2_with (go_at_call 113; refine (low_r _ _).mono ?_; rintro e w' ⟨rfl, rfl⟩)
    go_ret
    exact ⟨ret_int (by rw [digR_1 (by omega) (by omega)]), rfl⟩
  all_goals
    rcases (by omega : ((lowB c).toNat : Int) < 97 ∨ (97 ≤ ((lowB c).toNat : Int) ∧ ((lowB c).toNat : Int) ≤ 102) ∨ 102 < ((lowB c).toNat : Int)) with h3 | ⟨h3, h4⟩ | h3
    · go_enter Tryz.func93, Tryz.ntmps93
      go_wp2_with (go_at_call 113; refine (low_r _ _).mono ?_; rintro e w' ⟨rfl, rfl⟩)
      go_ret
      exact ⟨ret_int (by rw [digR_3 (by omega) (by omega)]), rfl⟩
    · go_enter Tryz.func93, Tryz.ntmps93
      go_wp2_with (go_at_call 113; refine (low_r _ _).mono ?_; rintro e w' ⟨rfl, rfl⟩)
      go_ret
      exact ⟨ret_int (by rw [digR_2 (by omega) (by omega) (by omega)]; omega), rfl⟩
    · go_enter Tryz.func93, Tryz.ntmps93
      go_wp2_with (go_at_call 113; refine (low_r _ _).mono ?_; rintro e w' ⟨rfl, rfl⟩)
      go_ret
      exact ⟨ret_int (by rw [digR_3 (by omega) (by omega)]), rfl⟩
end Go.Proofs.YtgkhelbpccehcaaGreatDoor
