/- Host of the code, whether a text begins with a slash or with http, what a part is. Conditions: texts of at most a million bytes. -/
import Derived.Test.YtcliapfoimnkiaaGreatDoorTa11
namespace Go.Proofs.YtcliapfoimnkiaaGreatDoor
open Go.RowKit
set_option linter.unusedVariables false
set_option linter.unusedSimpArgs false

theorem pw10 : pw 10 15 ≤ 9007199254740992 := by unfold pw; decide
theorem pw16 : pw 16 12 ≤ 9007199254740992 := by unfold pw; decide
def NumIs (b : Int) (m : Nat) (l : List UInt8) (w : World) (e : Ending) (w' : World) : Prop :=
  e = .returned (.tuple #[.int .i64 (numB b m l).1, .bool (numB b m l).2]) ∧ w = w'
theorem num_A (s : ByteArray) (w : World) (hs : s.size ≤ 1000000) : Calls Tryz.prog 51 #[.string s] w (NumIs 10 15 s.data.toList w) := by
  go_enter Tryz.func51, Tryz.ntmps51
  go_wp2_with (go_at_call 69; refine (num_a _ 10 15 _ (by unfold maxLen; omega) (by decide) (by decide) pw10 (by decide)).mono ?_; rintro e w' ⟨rfl, rfl⟩)
  go_ret2
  exact ⟨rfl, rfl⟩
theorem num_R (s : ByteArray) (w : World) (hs : s.size ≤ 1000000) : Calls Tryz.prog 38 #[.string s] w (NumIs 10 15 s.data.toList w) := by
  go_enter Tryz.func38, Tryz.ntmps38
  go_wp2_with (go_at_call 59; refine (num_r _ 10 15 _ (by unfold maxLen; omega) (by decide) (by decide) pw10 (by decide)).mono ?_; rintro e w' ⟨rfl, rfl⟩)
  go_ret2
  exact ⟨rfl, rfl⟩
theorem text_ne {s : ByteArray} {l : List UInt8} (h : s.data.toList ≠ l) : (s.toList == l) = false := by
  rw [beq_eq_false_iff_ne, ByteArray.toList_eq]; exact h
theorem text_eq {s : ByteArray} {l : List UInt8} (h : s.data.toList = l) : (s.toList == l) = true := by
  rw [ByteArray.toList_eq, h]; simp
theorem size_pos {s : ByteArray} (h : s.data.toList ≠ []) : 0 < s.size := List.length_pos_iff.2 h

theorem slash_cons {c : UInt8} {r : List UInt8} (h : c ≠ 47) : slashL (c :: r) = false := by
  unfold slashL; split <;> simp_all


set_option maxRecDepth 10000 in
theorem name_a (s : ByteArray) (w : World) (hs : s.size ≤ 1000000) : Calls Tryz.prog 66 #[.string s] w fun e w' => e = .returned (.bool (nameL s.data.toList)) ∧ w = w' := by
  go_enter Tryz.func66, Tryz.ntmps66
  go_wp2
  go_loop [6] (fun i => ∃ (k : Nat), k ≤ s.size ∧ i = .int .i64 k ∧ (s.data.toList.take k).all nameB = true) (fun i => s.size - (intOf i).toNat)
  case atStart => exact ⟨0, Nat.zero_le _, rfl, rfl⟩
  case round =>
    obtain ⟨k, hk, rfl, hall⟩ := hrel
    have HA := Lib.hid hall
    clear hall
    by_cases hlt : k < s.size
    · cases ha : alB s[k] with
      | true =>
        have HN := Lib.hid (take_all hlt HA.out (show nameB s[k] = true by unfold nameB; rw [ha]; rfl))
        have HC := Lib.hid (fun w => ha ▸ alnum_a s[k] w)
        clear ha
        go_wp2_with (go_at_call 81; refine (HC.out _).mono ?_; rintro e w' ⟨rfl, rfl⟩)
        go_round
        case rel => exact ⟨k + 1, by omega, by go_num, HN.out⟩
        case measure => simp [intOf]; omega
      | false =>
        have HC := Lib.hid (fun w => ha ▸ alnum_a s[k] w)
        by_cases hm : 0 ≤ Lib.indexByte [45, 46] s[k]
        · have HN := Lib.hid (take_all hlt HA.out (show nameB s[k] = true by unfold nameB; rw [← hmark_i]; simp [inI, hm]))
          clear ha
          go_wp2_with (first
            | (go_at_call 81; refine (HC.out _).mono ?_; rintro e w' ⟨rfl, rfl⟩)
            | (go_at_call 80; refine (ix_byte [45, 46] _ _).mono ?_; rintro e w' ⟨rfl, rfl⟩))
          go_round
          case rel => exact ⟨k + 1, by omega, by go_num, HN.out⟩
          case measure => simp [intOf]; omega
        · have HN := Lib.hid (show nameL s.data.toList = false by
            have : s.data.toList.all nameB = false := by
              rw [List.all_eq_false]
              exact ⟨s[k], List.getElem_mem (by exact hlt), by unfold nameB; rw [ha, ← hmark_i]; simp [inI, hm]⟩
            unfold nameL; rw [this]; rfl)
          clear ha
          go_wp2_with (first
            | (go_at_call 81; refine (HC.out _).mono ?_; rintro e w' ⟨rfl, rfl⟩)
            | (go_at_call 80; refine (ix_byte [45, 46] _ _).mono ?_; rintro e w' ⟨rfl, rfl⟩))
          go_ret
          exact ⟨ret_bool HN.out.symm, rfl⟩
    · have hal := take_end hlt HA.out
      by_cases h0 : s.size = 0
      · have HN := Lib.hid (show nameL s.data.toList = false by rw [nil_data h0]; rfl)
        have h1 := emp_yes h0
        clear h0 hal
        go_wp2
        go_ret
        exact ⟨ret_bool HN.out.symm, rfl⟩
      · obtain ⟨h1, h2⟩ := emp_no (s := s) (by omega)
        have HN := Lib.hid (show nameL s.data.toList = decide (s.size ≤ 100) by
          unfold nameL; rw [hal, len_data, ← ByteArray.toList_eq, h1]; rfl)
        clear h0 hal
        go_wp2
        go_ret
        exact ⟨ret_bool (by rw [HN.out]; try (simp; omega)), rfl⟩

set_option maxRecDepth 10000 in
theorem port_a (s : ByteArray) (w : World) (hs : s.size ≤ 1000000) : Calls Tryz.prog 67 #[.string s] w fun e w' => e = .returned (.bool (portL s.data.toList)) ∧ w = w' := by
  have HP := Lib.hid (show portL s.data.toList = ((numB 10 15 s.data.toList).2 && decide (s.size ≤ 5) && decide ((numB 10 15 s.data.toList).1 ≤ 65535)) by unfold portL; rw [len_data])
  have HA := Lib.hid (fun w => num_A s w hs)
  unfold NumIs at HA
  obtain ⟨n, hn⟩ : ∃ n, n = (numB 10 15 s.data.toList).1 := ⟨_, rfl⟩
  obtain ⟨ok, hok⟩ : ∃ ok, ok = (numB 10 15 s.data.toList).2 := ⟨_, rfl⟩
  rw [← hn, ← hok] at HA HP
  clear hn hok
  cases ok with
  | false =>
    go_enter Tryz.func67, Tryz.ntmps67
    go_wp2_with (go_at_call 51; refine (HA.out _).mono ?_; rintro e w' ⟨rfl, rfl⟩)
    go_ret
    exact ⟨ret_bool (by rw [HP.out]; rfl), rfl⟩
  | true =>
    by_cases h5 : s.size ≤ 5
    · have h6 : decide (s.size ≤ 5) = true := by simpa using h5
      rw [h6] at HP
      go_enter Tryz.func67, Tryz.ntmps67
      go_wp2_with (go_at_call 51; refine (HA.out _).mono ?_; rintro e w' ⟨rfl, rfl⟩)
      go_ret
      exact ⟨ret_bool (by rw [HP.out]; simp), rfl⟩
    · have h6 : decide (s.size ≤ 5) = false := by simpa using h5
      rw [h6] at HP
      go_enter Tryz.func67, Tryz.ntmps67
      go_wp2_with (go_at_call 51; refine (HA.out _).mono ?_; rintro e w' ⟨rfl, rfl⟩)
      go_ret
      exact ⟨ret_bool (by rw [HP.out]; simp), rfl⟩

theorem up_one (d : UInt8) (h : (List.range 256).all (fun n => inI [d] (UInt8.ofNat n) == isC d (UInt8.ofNat n)) = true) (s : ByteArray) : (upA ⟨#[d]⟩ s).data.toList = upL (isC d) s.data.toList := by
  rw [upA_list, show inI (⟨#[d]⟩ : ByteArray).data.toList = isC d from funext fun c => one_i d c h]
theorem up_58 (s : ByteArray) : (upA ⟨#[58]⟩ s).data.toList = upL (isC 58) s.data.toList := up_one 58 (by decide +kernel) s
theorem up_63 (s : ByteArray) : (upA ⟨#[63]⟩ s).data.toList = upL (isC 63) s.data.toList := up_one 63 (by decide +kernel) s
theorem up_47 (s : ByteArray) : (upA ⟨#[47]⟩ s).data.toList = upL (isC 47) s.data.toList := up_one 47 (by decide +kernel) s
theorem ext_from (s : ByteArray) (k : Nat) : (s.extract k s.size).data.toList = s.data.toList.drop k := by
  rw [ByteArray.data_extract, Array.toList_extract]
  show (s.data.toList.drop k).take (s.data.toList.length - k) = _
  exact List.take_of_length_le (by rw [List.length_drop]; exact Nat.le_refl _)
theorem ext_le (s : ByteArray) (i j : Nat) : (s.extract i j).size ≤ s.size := by
  rw [ByteArray.size_extract]; omega

set_option maxRecDepth 10000 in
theorem host_a (s : ByteArray) (w : World) (hs : s.size ≤ 1000000) : Calls Tryz.prog 47 #[.string s] w fun e w' => e = .returned (.bool (hostL s.data.toList)) ∧ w = w' := by
  have HU := Lib.hid (fun w => upto_a s ⟨#[58]⟩ hs w)
  have hz := upA_size ⟨#[58]⟩ s
  have hl := up_58 s
  obtain ⟨u, hu⟩ : ∃ u, u = upA ⟨#[58]⟩ s := ⟨_, rfl⟩
  rw [← hu] at HU hz hl
  clear hu
  have HH := Lib.hid (show hostL s.data.toList = (nameL u.data.toList && (decide (u.size = s.size) || portL (s.data.toList.drop (u.size + 1)))) by
    unfold hostL; rw [← hl]; rfl)
  clear hl
  have HN := Lib.hid (fun w => name_a u w (by omega))
  cases hn : nameL u.data.toList with
  | false =>
    rw [hn] at HN HH
    clear hn
    go_enter Tryz.func47, Tryz.ntmps47
    go_wp2_with (first
      | (go_at_call 65; refine (HU.out _).mono ?_; rintro e w' ⟨rfl, rfl⟩)
      | (go_at_call 66; refine (HN.out _).mono ?_; rintro e w' ⟨rfl, rfl⟩))
    go_ret
    exact ⟨ret_bool (by rw [HH.out]; rfl), rfl⟩
  | true =>
    rw [hn] at HN HH
    clear hn
    by_cases he : u.size = s.size
    · have e1 : ((u.size : Int) == (s.size : Int)) = true := by rw [he]; simp
      rw [decide_eq_true he] at HH
      have HE := Lib.hid he
      clear he
      go_enter Tryz.func47, Tryz.ntmps47
      go_wp2_with (first
        | (go_at_call 65; refine (HU.out _).mono ?_; rintro e w' ⟨rfl, rfl⟩)
        | (go_at_call 66; refine (HN.out _).mono ?_; rintro e w' ⟨rfl, rfl⟩))
      go_ret
      exact ⟨ret_bool (by rw [HH.out]; rfl), rfl⟩
    · have e1 : ((u.size : Int) == (s.size : Int)) = false := by
        rw [beq_eq_false_iff_ne]; omega
      rw [decide_eq_false he] at HH
      have c1 : (0 : Int) ≤ (u.size : Int) + 1 := by omega
      have c2 : (u.size : Int) + 1 ≤ (s.size : Int) := by omega
      clear he
      have hp := ext_from s (u.size + 1)
      have hps := ext_le s (u.size + 1) s.size
      obtain ⟨p, hpp⟩ : ∃ p, p = s.extract (u.size + 1) s.size := ⟨_, rfl⟩
      rw [← hpp] at hp hps
      rw [← hp] at HH
      have HP := Lib.hid (fun w => port_a p w (by omega))
      have HQ := Lib.hid hpp
      clear hp hpp
      go_enter Tryz.func47, Tryz.ntmps47
      go_wp2_with (first
        | (go_at_call 65; refine (HU.out _).mono ?_; rintro e w' ⟨rfl, rfl⟩)
        | (go_at_call 66; refine (HN.out _).mono ?_; rintro e w' ⟨rfl, rfl⟩)
        | (go_at_call 67; try rw [← HQ.out]; refine (HP.out _).mono ?_; rintro e w' ⟨rfl, rfl⟩))
      go_ret
      exact ⟨ret_bool (by rw [HH.out]; rfl), rfl⟩
end Go.Proofs.YtcliapfoimnkiaaGreatDoor
