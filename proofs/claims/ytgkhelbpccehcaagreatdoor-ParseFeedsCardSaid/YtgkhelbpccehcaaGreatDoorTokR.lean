/- The document's IsToken and IsValue answer what the code's do. Conditions: a text that can be read. -/
import Derived.Test.YtgkhelbpccehcaaGreatDoorVal
namespace Go.Proofs.YtgkhelbpccehcaaGreatDoor
open Go.RowKit
set_option linter.unusedVariables false

def alB (c : UInt8) : Bool := (decide (97 ≤ c.toNat) && decide (c.toNat ≤ 122)) || (decide (65 ≤ c.toNat) && decide (c.toNat ≤ 90)) || (decide (48 ≤ c.toNat) && decide (c.toNat ≤ 57))
def inL (l : List UInt8) (c : UInt8) : Bool := l.any (fun x => x == c)
theorem by_byte (p : UInt8 → Bool) (h : (List.range 256).all (fun n => p (UInt8.ofNat n)) = true) (c : UInt8) : p c = true := by
  have := List.all_eq_true.1 h c.toNat (by rw [List.mem_range]; exact c.toNat_lt)
  rwa [UInt8.ofNat_toNat] at this
theorem tokB_al (c : UInt8) : tokB c = (alB c || inL marksL c) := by
  have := by_byte (fun c => tokB c == (alB c || inL marksL c)) (by decide +kernel) c
  simpa using this
theorem nil_data {t : ByteArray} (h : t.size = 0) : t.data.toList = [] := List.eq_nil_of_length_eq_zero (by rw [len_data]; exact h)
theorem eq_byte {x y : UInt8} (h : x = y) : ((x.toNat : Int) == (y.toNat : Int)) = true := by rw [h]; simp

set_option maxRecDepth 10000 in
set_option maxHeartbeats 1000000 in
theorem alnum_r (c : UInt8) (w : World) : Calls Tryz.prog 118 #[.int .u8 (c.toNat : Int)] w fun e w' => e = .returned (.bool (alB c)) ∧ w = w' := by
  have hb : (c.toNat : Int) < 256 := by have := c.toNat_lt; omega
  have h0 : (0 : Int) ≤ (c.toNat : Int) := by omega
  rcases (by omega : (c.toNat : Int) < 48 ∨ (48 ≤ (c.toNat : Int) ∧ (c.toNat : Int) ≤ 57) ∨ (57 < (c.toNat : Int) ∧ (c.toNat : Int) < 65) ∨ (65 ≤ (c.toNat : Int) ∧ (c.toNat : Int) ≤ 90) ∨ (90 < (c.toNat : Int) ∧ (c.toNat : Int) < 97) ∨ (97 ≤ (c.toNat : Int) ∧ (c.toNat : Int) ≤ 122) ∨ 122 < (c.toNat : Int)) with h | ⟨h, h2⟩ | ⟨h, h2⟩ | ⟨h, h2⟩ | ⟨h, h2⟩ | ⟨h, h2⟩ | h
  · have HA := Lib.hid (show alB c = false by unfold alB; simp; omega)
    go_enter Tryz.func118, Tryz.ntmps118
    go_wp2
    go_ret
    exact ⟨ret_bool (by rw [HA.out]; try (simp; omega)), rfl⟩
  · have HA := Lib.hid (show alB c = true by unfold alB; simp; omega)
    go_enter Tryz.func118, Tryz.ntmps118
    go_wp2
    go_ret
    exact ⟨ret_bool (by rw [HA.out]; try (simp; omega)), rfl⟩
  · have HA := Lib.hid (show alB c = false by unfold alB; simp; omega)
    go_enter Tryz.func118, Tryz.ntmps118
    go_wp2
    go_ret
    exact ⟨ret_bool (by rw [HA.out]; try (simp; omega)), rfl⟩
  · have HA := Lib.hid (show alB c = true by unfold alB; simp; omega)
    go_enter Tryz.func118, Tryz.ntmps118
    go_wp2
    go_ret
    exact ⟨ret_bool (by rw [HA.out]; try (simp; omega)), rfl⟩
  · have HA := Lib.hid (show alB c = false by unfold alB; simp; omega)
    go_enter Tryz.func118, Tryz.ntmps118
    go_wp2
    go_ret
    exact ⟨ret_bool (by rw [HA.out]; try (simp; omega)), rfl⟩
  · have HA := Lib.hid (show alB c = true by unfold alB; simp; omega)
    go_enter Tryz.func118, Tryz.ntmps118
    go_wp2
    go_ret
    exact ⟨ret_bool (by rw [HA.out]; try (simp; omega)), rfl⟩
  · have HA := Lib.hid (show alB c = false by unfold alB; simp; omega)
    go_enter Tryz.func118, Tryz.ntmps118
    go_wp2
    go_ret
    exact ⟨ret_bool (by rw [HA.out]; try (simp; omega)), rfl⟩

set_option maxRecDepth 10000 in
theorem in_r (c : UInt8) (s : ByteArray) (w : World) (hs : s.size ≤ maxLen) :
    Calls Tryz.prog 98 #[.int .u8 (c.toNat : Int), .string s] w fun e w' => e = .returned (.bool (inL s.data.toList c)) ∧ w = w' := by
  unfold maxLen at hs
  go_enter Tryz.func98, Tryz.ntmps98
  go_wp2
  go_loop [5] (fun i => ∃ (k : Nat), k ≤ s.size ∧ i = .int .i64 k ∧ inL (s.data.toList.take k) c = false) (fun i => s.size - (intOf i).toNat)
  case atStart => exact ⟨0, Nat.zero_le _, rfl, rfl⟩
  case round =>
    obtain ⟨k, hk, rfl, hall⟩ := hrel
    have HA := Lib.hid hall
    clear hall
    by_cases hlt : k < s.size
    · by_cases he : s[k] = c
      · have e1 := eq_byte he
        have HE := Lib.hid he
        clear he
        go_wp2
        go_ret
        exact ⟨ret_bool (by
          unfold inL
          symm
          rw [List.any_eq_true]
          exact ⟨s[k], List.getElem_mem (by exact hlt), by simpa using HE.out⟩), rfl⟩
      · have e1 := (ne_int he).1
        have HE := Lib.hid he
        clear he
        go_wp2
        go_round
        case rel => exact ⟨k + 1, by omega, by go_num, by unfold inL; rw [take_snoc s k hlt, List.any_append]; have := HA.out; unfold inL at this; rw [this]; simpa using HE.out⟩
        case measure => simp [intOf]; omega
    · go_wp2
      go_ret
      exact ⟨ret_bool (by have := HA.out; rw [List.take_of_length_le (by rw [len_data]; omega)] at this; rw [this]), rfl⟩

set_option maxRecDepth 10000 in
theorem tok_r (c : UInt8) (w : World) : Calls Tryz.prog 96 #[.int .u8 (c.toNat : Int)] w fun e w' => e = .returned (.bool (tokB c)) ∧ w = w' := by
  cases ha : alB c
  · have HT := Lib.hid (show tokB c = inL marksL c by rw [tokB_al, ha]; rfl)
    have HA := Lib.hid ha
    clear ha
    go_enter Tryz.func96, Tryz.ntmps96
    go_wp2_with fail
    refine (alnum_r _ _).mono ?_
    rw [HA.out]
    rintro e w' ⟨rfl, rfl⟩
    go_wp2_with fail
    refine (in_r c ⟨#[33, 35, 36, 37, 38, 39, 42, 43, 45, 46, 94, 95, 96, 124, 126]⟩ _ (by unfold maxLen; decide)).mono ?_
    rintro e w' ⟨rfl, rfl⟩
    go_wp2
    go_ret
    exact ⟨ret_bool (by rw [HT.out]; rfl), rfl⟩
  · have HT := Lib.hid (show tokB c = true by rw [tokB_al, ha]; rfl)
    have HA := Lib.hid ha
    clear ha
    go_enter Tryz.func96, Tryz.ntmps96
    go_wp2_with fail
    refine (alnum_r _ _).mono ?_
    rw [HA.out]
    rintro e w' ⟨rfl, rfl⟩
    go_wp2
    go_ret
    exact ⟨ret_bool HT.out.symm, rfl⟩

set_option maxRecDepth 10000 in
theorem istok_r (s : ByteArray) (w : World) (hs : s.size ≤ maxLen) :
    Calls Tryz.prog 70 #[.string s] w fun e w' => e = .returned (.bool (tokL s.data.toList)) ∧ w = w' := by
  unfold maxLen at hs
  go_enter Tryz.func70, Tryz.ntmps70
  go_wp2
  go_loop [3] (fun i => ∃ (k : Nat), k ≤ s.size ∧ i = .int .i64 k ∧ (s.data.toList.take k).all tokB = true) (fun i => s.size - (intOf i).toNat)
  case atStart => exact ⟨0, Nat.zero_le _, rfl, rfl⟩
  case round =>
    obtain ⟨k, hk, rfl, hall⟩ := hrel
    have HA := Lib.hid hall
    clear hall
    by_cases hlt : k < s.size
    · by_cases ht : tokB s[k] = true
      · have HT := Lib.hid ht
        go_wp2_with (go_at_call 96; refine (tok_r _ _).mono ?_; rintro e w' ⟨rfl, rfl⟩)
        go_round
        case rel => exact ⟨k + 1, by omega, by go_num, by rw [take_snoc s k hlt, List.all_append, HA.out]; simp [HT.out]⟩
        case measure => simp [intOf]; omega
      · have ht : tokB s[k] = false := by simpa using ht
        have HT := Lib.hid ht
        go_wp2_with (go_at_call 96; refine (tok_r _ _).mono ?_; rintro e w' ⟨rfl, rfl⟩)
        go_ret
        exact ⟨ret_bool (tokL_no k hlt HT.out).symm, rfl⟩
    · go_wp2
      go_ret
      exact ⟨ret_bool (by
        rw [tokL_yes (by rw [← HA.out, List.take_of_length_le (by rw [len_data]; omega)])]
        rw [Bool.eq_iff_iff]
        by_cases h0 : s.size = 0
        · have := nil_data h0; simp [this, h0]
        · have := (emp_no (s := s) (by omega)).1; rw [ByteArray.toList_eq] at this; simp only [this]; simp; omega), rfl⟩

set_option maxRecDepth 10000 in
theorem val_r (c : UInt8) (w : World) : Calls Tryz.prog 122 #[.int .u8 (c.toNat : Int)] w fun e w' => e = .returned (.bool (valB c)) ∧ w = w' := by
  have hb : (c.toNat : Int) < 256 := by have := c.toNat_lt; omega
  have h0 : (0 : Int) ≤ (c.toNat : Int) := by omega
  rcases (by omega : (c.toNat : Int) = 9 ∨ ((c.toNat : Int) ≠ 9 ∧ (c.toNat : Int) < 32) ∨ (32 ≤ (c.toNat : Int) ∧ (c.toNat : Int) ≠ 127) ∨ (c.toNat : Int) = 127) with h | ⟨h, h2⟩ | ⟨h, h2⟩ | h
  · have h1 : ((c.toNat : Int) == 9) = true := by simp; omega
    have HV := Lib.hid (val_1 (c := c) (by omega))
    clear h
    go_enter Tryz.func122, Tryz.ntmps122
    go_wp2
    go_ret
    exact ⟨ret_bool HV.out.symm, rfl⟩
  · have h1 : ((c.toNat : Int) == 9) = false := by simp; omega
    have HV := Lib.hid (val_3 (c := c) (by omega) (by omega))
    clear h
    go_enter Tryz.func122, Tryz.ntmps122
    go_wp2
    go_ret
    exact ⟨ret_bool HV.out.symm, rfl⟩
  · have h1 : ((c.toNat : Int) == 9) = false := by simp; omega
    have h3 : ((c.toNat : Int) != 127) = true := by simp; omega
    have HV := Lib.hid (val_2 (c := c) (by omega) (by omega))
    clear h2
    go_enter Tryz.func122, Tryz.ntmps122
    go_wp2
    go_ret
    exact ⟨ret_bool HV.out.symm, rfl⟩
  · have h1 : ((c.toNat : Int) == 9) = false := by simp; omega
    have h3 : ((c.toNat : Int) != 127) = false := by simp; omega
    have h4 : 32 ≤ (c.toNat : Int) := by omega
    have HV := Lib.hid (val_4 (c := c) (by omega))
    clear h
    go_enter Tryz.func122, Tryz.ntmps122
    go_wp2
    go_ret
    exact ⟨ret_bool HV.out.symm, rfl⟩

set_option maxRecDepth 10000 in
theorem isval_r (s : ByteArray) (w : World) (hs : s.size ≤ maxLen) :
    Calls Tryz.prog 103 #[.string s] w fun e w' => e = .returned (.bool (valL s.data.toList)) ∧ w = w' := by
  unfold maxLen at hs
  go_enter Tryz.func103, Tryz.ntmps103
  go_wp2
  go_loop [3] (fun i => ∃ (k : Nat), k ≤ s.size ∧ i = .int .i64 k ∧ (s.data.toList.take k).all valB = true) (fun i => s.size - (intOf i).toNat)
  case atStart => exact ⟨0, Nat.zero_le _, rfl, rfl⟩
  case round =>
    obtain ⟨k, hk, rfl, hall⟩ := hrel
    have HA := Lib.hid hall
    clear hall
    by_cases hlt : k < s.size
    · by_cases ht : valB s[k] = true
      · have HT := Lib.hid ht
        go_wp2_with (go_at_call 122; refine (val_r _ _).mono ?_; rintro e w' ⟨rfl, rfl⟩)
        go_round
        case rel => exact ⟨k + 1, by omega, by go_num, by rw [take_snoc s k hlt, List.all_append, HA.out]; simp [HT.out]⟩
        case measure => simp [intOf]; omega
      · have ht : valB s[k] = false := by simpa using ht
        have HT := Lib.hid ht
        go_wp2_with (go_at_call 122; refine (val_r _ _).mono ?_; rintro e w' ⟨rfl, rfl⟩)
        go_ret
        exact ⟨ret_bool (valL_no k hlt HT.out).symm, rfl⟩
    · go_wp2
      go_ret
      exact ⟨ret_bool (by unfold valL; rw [← HA.out, List.take_of_length_le (by rw [len_data]; omega)]), rfl⟩
end Go.Proofs.YtgkhelbpccehcaaGreatDoor
