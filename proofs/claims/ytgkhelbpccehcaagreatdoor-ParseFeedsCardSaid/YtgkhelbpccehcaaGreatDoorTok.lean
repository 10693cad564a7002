/- The code's IsToken answers whether a text is a token. Conditions: a text that can be read. -/
import Derived.Test.YtgkhelbpccehcaaGreatDoorSame
import Derived.Test.YtgkhelbpccehcaaGreatDoorShelf
import Derived.Test.YtgkhelbpccehcaaGreatDoorNum
namespace Go.Proofs.YtgkhelbpccehcaaGreatDoor
open Go.RowKit
set_option linter.unusedVariables false

def marksL : List UInt8 := [33, 35, 36, 37, 38, 39, 42, 43, 45, 46, 94, 95, 96, 124, 126]
/-- A byte of a token. -/
def tokB (c : UInt8) : Bool := decide (97 ≤ (lowB c).toNat ∧ (lowB c).toNat ≤ 122) || decide (48 ≤ c.toNat ∧ c.toNat ≤ 57) || decide (0 ≤ Lib.indexByte marksL c)
def tokL (l : List UInt8) : Bool := l.all tokB && !l.isEmpty
theorem tok_1 {c : UInt8} (h : 97 ≤ (lowB c).toNat) (h2 : (lowB c).toNat ≤ 122) : tokB c = true := by
  unfold tokB; rw [decide_eq_true (show _ ∧ _ from ⟨h, h2⟩)]; rfl
theorem tok_2 {c : UInt8} (h : 48 ≤ c.toNat) (h2 : c.toNat ≤ 57) : tokB c = true := by
  unfold tokB; rw [decide_eq_true (show 48 ≤ c.toNat ∧ c.toNat ≤ 57 from ⟨h, h2⟩)]; simp
theorem tok_3 {c : UInt8} (h : 0 ≤ Lib.indexByte marksL c) : tokB c = true := by
  unfold tokB; rw [decide_eq_true h]; simp
theorem tok_4 {c : UInt8} (h : ¬ (97 ≤ (lowB c).toNat ∧ (lowB c).toNat ≤ 122)) (h2 : ¬ (48 ≤ c.toNat ∧ c.toNat ≤ 57)) (h3 : ¬ 0 ≤ Lib.indexByte marksL c) : tokB c = false := by
  unfold tokB; rw [decide_eq_false h, decide_eq_false h2, decide_eq_false h3]; rfl
theorem take_snoc (s : ByteArray) (k : Nat) (h : k < s.size) : s.data.toList.take (k + 1) = s.data.toList.take k ++ [s[k]] := by
  rw [List.take_succ_eq_append_getElem (by simpa using h)]; rfl
theorem tokL_no {s : ByteArray} (k : Nat) (h : k < s.size) (ht : tokB s[k] = false) : tokL s.data.toList = false := by
  unfold tokL
  have : s.data.toList.all tokB = false := by
    rw [List.all_eq_false]
    exact ⟨s[k], List.getElem_mem (by exact h), by simp [ht]⟩
  rw [this]; rfl
theorem tokL_yes {s : ByteArray} (h : s.data.toList.all tokB = true) : tokL s.data.toList = !s.data.toList.isEmpty := by
  unfold tokL; rw [h]; rfl
theorem index_marks (c : UInt8) (w : World) :
    Calls Tryz.prog 146 #[.string { data := #[33, 35, 36, 37, 38, 39, 42, 43, 45, 46, 94, 95, 96, 124, 126] }, .int .u8 (c.toNat : Int)] w fun e w' => e = .returned (.int .i64 (Lib.indexByte marksL c)) ∧ w = w' :=
  (index_byte _ _ _).mono fun e w' ⟨he, hw⟩ => ⟨by rw [he, Int.toNat_natCast, show c.toNat.toUInt8 = c from UInt8.ofNat_toNat]; rfl, hw.symm⟩

set_option maxRecDepth 10000 in
set_option maxHeartbeats 1000000 in
theorem tok_a (c : UInt8) (w : World) : Calls Tryz.prog 126 #[.int .u8 (c.toNat : Int)] w fun e w' => e = .returned (.bool (tokB c)) ∧ w = w' := by
  have hb : (c.toNat : Int) < 256 := by have := c.toNat_lt; omega
  have h0 : (0 : Int) ≤ (c.toNat : Int) := by omega
  have hlb : ((lowB c).toNat : Int) < 256 := by have := (lowB c).toNat_lt; omega
  have hl0 : (0 : Int) ≤ ((lowB c).toNat : Int) := by omega
  rcases (by omega : (97 ≤ ((lowB c).toNat : Int) ∧ ((lowB c).toNat : Int) ≤ 122) ∨ ((lowB c).toNat : Int) < 97 ∨ 122 < ((lowB c).toNat : Int)) with ⟨h1, h2⟩ | h1
  · go_enter Tryz.func126, Tryz.ntmps126
    go_wp2_with (first | (go_at_call 145; refine (low_a _ _).mono ?_; rintro e w' ⟨rfl, rfl⟩) | (go_at_call 146; refine (index_marks _ _).mono ?_; rintro e w' ⟨rfl, rfl⟩))
    go_ret
    exact ⟨ret_bool (tok_1 (by omega) (by omega)).symm, rfl⟩
  · rcases (by omega : (48 ≤ (c.toNat : Int) ∧ (c.toNat : Int) ≤ 57) ∨ (c.toNat : Int) < 48 ∨ 57 < (c.toNat : Int)) with ⟨h3, h4⟩ | h3
    · rcases h1 with h1 | h1
      all_goals
        go_enter Tryz.func126, Tryz.ntmps126
        go_wp2_with (first | (go_at_call 145; refine (low_a _ _).mono ?_; rintro e w' ⟨rfl, rfl⟩) | (go_at_call 146; refine (index_marks _ _).mono ?_; rintro e w' ⟨rfl, rfl⟩))
        go_ret
        exact ⟨ret_bool (tok_2 (by omega) (by omega)).symm, rfl⟩
    · by_cases h5 : 0 ≤ Lib.indexByte marksL c
      · rcases h1 with h1 | h1 <;> rcases h3 with h3 | h3
        all_goals
          go_enter Tryz.func126, Tryz.ntmps126
          go_wp2_with (first | (go_at_call 145; refine (low_a _ _).mono ?_; rintro e w' ⟨rfl, rfl⟩) | (go_at_call 146; refine (index_marks _ _).mono ?_; rintro e w' ⟨rfl, rfl⟩))
          go_ret
          exact ⟨ret_bool (tok_3 h5).symm, rfl⟩
      · have HT := Lib.hid (tok_4 (c := c) (by omega) (by omega) h5)
        rcases h1 with h1 | h1 <;> rcases h3 with h3 | h3
        all_goals
          go_enter Tryz.func126, Tryz.ntmps126
          go_wp2_with (first | (go_at_call 145; refine (low_a _ _).mono ?_; rintro e w' ⟨rfl, rfl⟩) | (go_at_call 146; refine (index_marks _ _).mono ?_; rintro e w' ⟨rfl, rfl⟩))
          go_ret
          exact ⟨ret_bool (by rw [HT.out]; simp; omega), rfl⟩
set_option maxRecDepth 10000 in
theorem istok_a (s : ByteArray) (w : World) (hs : s.size ≤ maxLen) :
    Calls Tryz.prog 106 #[.string s] w fun e w' => e = .returned (.bool (tokL s.data.toList)) ∧ w = w' := by
  unfold maxLen at hs
  go_enter Tryz.func106, Tryz.ntmps106
  go_wp2
  go_loop [6] (fun i => ∃ (k : Nat), k ≤ s.size ∧ i = .int .i64 k ∧ (s.data.toList.take k).all tokB = true) (fun i => s.size - (intOf i).toNat)
  case atStart => exact ⟨0, Nat.zero_le _, rfl, rfl⟩
  case round =>
    obtain ⟨k, hk, rfl, hall⟩ := hrel
    have HA := Lib.hid hall
    clear hall
    by_cases hlt : k < s.size
    · by_cases ht : tokB s[k] = true
      · have HT := Lib.hid ht
        go_wp2_with (go_at_call 126; refine (tok_a _ _).mono ?_; rintro e w' ⟨rfl, rfl⟩)
        go_round
        case rel => exact ⟨k + 1, by omega, by go_num, by rw [take_snoc s k hlt, List.all_append, HA.out]; simp [HT.out]⟩
        case measure => simp [intOf]; omega
      · have ht : tokB s[k] = false := by simpa using ht
        have HT := Lib.hid ht
        go_wp2_with (go_at_call 126; refine (tok_a _ _).mono ?_; rintro e w' ⟨rfl, rfl⟩)
        go_ret
        exact ⟨ret_bool (tokL_no k hlt HT.out).symm, rfl⟩
    · go_wp2
      go_ret
      exact ⟨ret_bool (by rw [tokL_yes (by rw [← HA.out, List.take_of_length_le (by rw [len_data]; omega)]), ByteArray.toList_eq]), rfl⟩
end Go.Proofs.YtgkhelbpccehcaaGreatDoor
