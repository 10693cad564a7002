/- Tests of bytes and of texts of the code: letters and digits, marks, what stands ahead of a byte. Conditions: texts that can be read. -/
import Derived.Test.YtcliapfoimnkiaaGreatDoorTm11
import Derived.Test.YtcliapfoimnkiaaGreatDoorMem
import Derived.Test.YtcliapfoimnkiaaGreatDoorJoin
import Derived.Test.YtcliapfoimnkiaaGreatDoorSh11
import Derived.Deep.RegionHeld3
import Derived.BigRegion
namespace Go.Proofs.YtcliapfoimnkiaaGreatDoor
open Go.RowKit
set_option linter.unusedVariables false
set_option linter.unusedSimpArgs false

def inI (m : List UInt8) (c : UInt8) : Bool := decide (0 ≤ Lib.indexByte m c)
theorem ix_byte (m : List UInt8) (c : UInt8) (w : World) :
    Calls Tryz.prog 80 #[.string ⟨m.toArray⟩, .int .u8 (c.toNat : Int)] w fun e w' => e = .returned (.int .i64 (Lib.indexByte m c)) ∧ w = w' :=
  (index_byte _ _ _).mono fun e w' ⟨he, hw⟩ => ⟨by rw [he, Int.toNat_natCast, show c.toNat.toUInt8 = c from UInt8.ofNat_toNat], hw.symm⟩
theorem ix_text (s : ByteArray) (c : UInt8) (w : World) :
    Calls Tryz.prog 80 #[.string s, .int .u8 (c.toNat : Int)] w fun e w' => e = .returned (.int .i64 (Lib.indexByte s.data.toList c)) ∧ w = w' :=
  (index_byte _ _ _).mono fun e w' ⟨he, hw⟩ => ⟨by rw [he, Int.toNat_natCast, show c.toNat.toUInt8 = c from UInt8.ofNat_toNat], hw.symm⟩

set_option maxRecDepth 10000 in
set_option maxHeartbeats 1000000 in
theorem alnum_a (c : UInt8) (w : World) : Calls Tryz.prog 81 #[.int .u8 (c.toNat : Int)] w fun e w' => e = .returned (.bool (alB c)) ∧ w = w' := by
  have hb : (c.toNat : Int) < 256 := by have := c.toNat_lt; omega
  have h0 : (0 : Int) ≤ (c.toNat : Int) := by omega
  rcases (by omega : (c.toNat : Int) < 48 ∨ (48 ≤ (c.toNat : Int) ∧ (c.toNat : Int) ≤ 57) ∨ (57 < (c.toNat : Int) ∧ (c.toNat : Int) < 65) ∨ (65 ≤ (c.toNat : Int) ∧ (c.toNat : Int) ≤ 90) ∨ (90 < (c.toNat : Int) ∧ (c.toNat : Int) < 97) ∨ (97 ≤ (c.toNat : Int) ∧ (c.toNat : Int) ≤ 122) ∨ 122 < (c.toNat : Int)) with h | ⟨h, h2⟩ | ⟨h, h2⟩ | ⟨h, h2⟩ | ⟨h, h2⟩ | ⟨h, h2⟩ | h
  all_goals
    first
      | (have HA := Lib.hid (show alB c = false by unfold alB; simp; omega)
         go_enter Tryz.func81, Tryz.ntmps81
         go_wp2
         go_ret
         exact ⟨ret_bool (by rw [HA.out]; try (simp; omega)), rfl⟩)
      | (have HA := Lib.hid (show alB c = true by unfold alB; simp; omega)
         go_enter Tryz.func81, Tryz.ntmps81
         go_wp2
         go_ret
         exact ⟨ret_bool (by rw [HA.out]; try (simp; omega)), rfl⟩)

def pmarks : List UInt8 := [45, 46, 95, 126, 33, 36, 38, 39, 40, 41, 42, 43, 44, 59, 61, 58, 64, 47]
/-- A byte that is written as it is. -/
def plainB (c : UInt8) : Bool := alB c || inL pmarks c
theorem plain_i (c : UInt8) : inI pmarks c = inL pmarks c := by
  have := by_byte (fun c => inI pmarks c == inL pmarks c) (by decide +kernel) c
  simpa using this
theorem hmark_i (c : UInt8) : inI [45, 46] c = inL [45, 46] c := by
  have := by_byte (fun c => inI [45, 46] c == inL [45, 46] c) (by decide +kernel) c
  simpa using this
theorem one_i (d c : UInt8) (h : (List.range 256).all (fun n => inI [d] (UInt8.ofNat n) == isC d (UInt8.ofNat n)) = true) : inI [d] c = isC d c := by
  have := by_byte (fun c => inI [d] c == isC d c) h c
  simpa using this


/-- What stands ahead of the first of these ends. -/
def upA (ends s : ByteArray) : ByteArray := s.extract 0 (upL (inI ends.data.toList) s.data.toList).length
theorem upA_list (ends s : ByteArray) : (upA ends s).data.toList = upL (inI ends.data.toList) s.data.toList := by
  unfold upA
  rw [ByteArray.data_extract, Array.toList_extract]
  show (s.data.toList.drop 0).take ((upL (inI ends.data.toList) s.data.toList).length - 0) = _
  rw [List.drop_zero, Nat.sub_zero, ← upL_take]
theorem upA_size (ends s : ByteArray) : (upA ends s).size ≤ s.size := by
  show (upA ends s).data.toList.length ≤ s.data.toList.length
  rw [upA_list]; exact upL_len _ _
theorem at_listT (s : ByteArray) (j : Nat) (h : j < s.size) : s.data.toList[j]? = some s[j] := by rw [List.getElem?_eq_getElem (by exact h)]; rfl
theorem upL_first {p : UInt8 → Bool} {s : ByteArray} {k : Nat} (hk : k < s.size) (h0 : (s.data.toList.take k).all (fun c => !p c) = true) (h : p s[k] = true) : (upL p s.data.toList).length = k := by
  have e : s.data.toList = s.data.toList.take k ++ s[k] :: s.data.toList.drop (k + 1) := by
    rw [← drop_cons s k hk, List.take_append_drop]
  have := upL_at (p := p) (a := s.data.toList.take k) (c := s[k]) (b := s.data.toList.drop (k + 1)) (fun x hx => by simpa using List.all_eq_true.1 h0 x hx) h
  rw [← e] at this
  rw [this, List.length_take, len_data]; omega
theorem upL_none {p : UInt8 → Bool} {s : ByteArray} (h0 : s.data.toList.all (fun c => !p c) = true) : upL p s.data.toList = s.data.toList :=
  upL_all fun x hx => by simpa using List.all_eq_true.1 h0 x hx
theorem ext_all (s : ByteArray) : s.extract 0 s.size = s := by
  apply bytes_ext
  rw [ByteArray.data_extract, Array.toList_extract]
  exact (List.take_of_length_le (l := s.data.toList) (i := s.data.toList.length) (Nat.le_refl _))
theorem take_all {p : UInt8 → Bool} {s : ByteArray} {k : Nat} (hk : k < s.size) (h : (s.data.toList.take k).all p = true) (h2 : p s[k] = true) : (s.data.toList.take (k + 1)).all p = true := by
  rw [take_snoc s k hk, List.all_append, h]; simp [h2]
theorem take_end {p : UInt8 → Bool} {s : ByteArray} {k : Nat} (hk : ¬ k < s.size) (h : (s.data.toList.take k).all p = true) : s.data.toList.all p = true := by
  rw [List.take_of_length_le (by rw [len_data]; omega)] at h; exact h

set_option maxRecDepth 10000 in
theorem upto_a (s ends : ByteArray) (hs : s.size ≤ 1000000) (w : World) :
    Calls Tryz.prog 65 #[.string s, .string ends] w fun e w' => e = .returned (.string (upA ends s)) ∧ w = w' := by
  go_enter Tryz.func65, Tryz.ntmps65
  go_wp2
  go_loop [8] (fun i => ∃ (k : Nat), k ≤ s.size ∧ i = .int .i64 k ∧ (s.data.toList.take k).all (fun c => !inI ends.data.toList c) = true) (fun i => s.size - (intOf i).toNat)
  case atStart => exact ⟨0, Nat.zero_le _, rfl, rfl⟩
  case round =>
    obtain ⟨k, hk, rfl, hall⟩ := hrel
    have HA := Lib.hid hall
    clear hall
    by_cases hlt : k < s.size
    · by_cases ht : 0 ≤ Lib.indexByte ends.data.toList s[k]
      · have HT := Lib.hid (show upA ends s = s.extract 0 k by unfold upA; rw [upL_first hlt HA.out (decide_eq_true ht)])
        obtain ⟨u, hu⟩ : ∃ u, u = s.extract 0 k := ⟨_, rfl⟩
        go_wp2_with (go_at_call 80; refine (ix_text _ _ _).mono ?_; rintro e w' ⟨rfl, rfl⟩)
        go_ret
        exact ⟨ret_str HT.out.symm, rfl⟩
      · have HT := Lib.hid (take_all hlt HA.out (by simp [inI, ht]))
        go_wp2_with (go_at_call 80; refine (ix_text _ _ _).mono ?_; rintro e w' ⟨rfl, rfl⟩)
        go_round
        case rel => exact ⟨k + 1, by omega, by go_num, HT.out⟩
        case measure => simp [intOf]; omega
    · have HE := Lib.hid (show upA ends s = s by unfold upA; rw [upL_none (take_end hlt HA.out), len_data, ext_all])
      go_wp2
      go_ret
      exact ⟨ret_str HE.out.symm, rfl⟩
end Go.Proofs.YtcliapfoimnkiaaGreatDoor
