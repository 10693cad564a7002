/- Parse of the document: a path and a query. Conditions: a text of at most a million bytes. -/
import Derived.Test.YtgckpoecdaioiaaTo11
import Derived.Test.YtgckpoecdaioiaaLowerR
import Derived.OwnWalk
namespace Go.Proofs.Ytgckpoecdaioiaa
open Go.RowKit
set_option linter.unusedVariables false
set_option linter.unusedSimpArgs false

theorem lowerR (s : ByteArray) (hs : s.size ≤ 1000000) (w : World) : Calls Try.prog 28 #[.string s] w fun e w' => e = .returned (.string (ofL (lowL s.data.toList))) ∧ Mods [] w w' :=
  (lower_r s w (by omega)).mono fun e w' ⟨h1, h2⟩ => ⟨h1, .of_below h2⟩
theorem inR (m : ByteArray) (c : UInt8) (hm : m.size ≤ 1000000) (w : World) : Calls Try.prog 27 #[.int .u8 (c.toNat : Int), .string m] w fun e w' => e = .returned (.bool (inL m.data.toList c)) ∧ w = w' :=
  in_r c m w (by unfold maxLen; omega)
def amarks : List UInt8 := [45, 46, 95, 126, 33, 36, 38, 39, 40, 41, 42, 43, 44, 59, 61, 58, 64, 47, 37, 63]
theorem allow_r0 (c : UInt8) : allowB c = (alB c || inL amarks c) := by
  have := by_byte (fun c => allowB c == (alB c || inL amarks c)) (by decide +kernel) c
  simpa using this
set_option maxRecDepth 10000 in
theorem allowed_r (c : UInt8) (w : World) : Calls Try.prog 49 #[.int .u8 (c.toNat : Int)] w fun e w' => e = .returned (.bool (allowB c)) ∧ w = w' := by
  cases ha : alB c with
  | true =>
    have HX := Lib.hid (show allowB c = true by rw [allow_r0, ha]; rfl)
    have HA := Lib.hid (fun w => ha ▸ alnum_r c w)
    clear ha
    go_enter Try.func49, Try.ntmps49
    go_wp2_with (go_at_call 41; refine (HA.out _).mono ?_; rintro e w' ⟨rfl, rfl⟩)
    go_ret
    exact ⟨ret_bool HX.out.symm, rfl⟩
  | false =>
    have HX := Lib.hid (show allowB c = inL amarks c by rw [allow_r0, ha]; rfl)
    have HA := Lib.hid (fun w => ha ▸ alnum_r c w)
    have HI := Lib.hid (fun w => inR ⟨amarks.toArray⟩ c (by decide) w)
    clear ha
    go_enter Try.func49, Try.ntmps49
    go_wp2_with (first
      | (go_at_call 41; refine (HA.out _).mono ?_; rintro e w' ⟨rfl, rfl⟩)
      | (go_at_call 27; refine (HI.out _).mono ?_; rintro e w' ⟨rfl, rfl⟩))
    go_ret
    exact ⟨ret_bool HX.out.symm, rfl⟩

/-- What the document's origin answers. -/
def orgV (l : List UInt8) : ByteArray × ByteArray × Bool :=
  if l.all allowB = true then (match decL (upL (isC 63) l) with | some d => ((clnA d).1, ofL (l.drop ((upL (isC 63) l).length + 1)), (clnA d).2) | none => (noB, noB, false)) else (noB, noB, false)
theorem orgV_bad {l : List UInt8} (h : l.all allowB = false) : orgV l = (noB, noB, false) := by unfold orgV; rw [if_neg (by rw [h]; simp)]
theorem orgV_dec {l : List UInt8} (h : l.all allowB = true) (h2 : decL (upL (isC 63) l) = none) : orgV l = (noB, noB, false) := by unfold orgV; rw [if_pos h, h2]
theorem orgV_yes {l d : List UInt8} (h : l.all allowB = true) (h2 : decL (upL (isC 63) l) = some d) : orgV l = ((clnA d).1, ofL (l.drop ((upL (isC 63) l).length + 1)), (clnA d).2) := by unfold orgV; rw [if_pos h, h2]
theorem orgV_no {l : List UInt8} (h : (orgV l).2.2 = false) : orgL l = none := by
  cases ha : l.all allowB with
  | false => exact orgL_bad ha
  | true =>
    cases hd : decL (upL (isC 63) l) with
    | none => exact orgL_dec ha hd
    | some d =>
      rw [orgV_yes ha hd] at h
      cases hc : clnL d with
      | none => exact orgL_cln ha hd hc
      | some p => rw [clnA_yes hc] at h; cases h
theorem orgV_some {l : List UInt8} (h : (orgV l).2.2 = true) : orgL l = some ((orgV l).1.data.toList, (orgV l).2.1.data.toList) := by
  cases ha : l.all allowB with
  | false => rw [orgV_bad ha] at h; cases h
  | true =>
    cases hd : decL (upL (isC 63) l) with
    | none => rw [orgV_dec ha hd] at h; cases h
    | some d =>
      have e := orgV_yes ha hd
      rw [e] at h
      cases hc : clnL d with
      | none => rw [clnA_no hc] at h; cases h
      | some p => rw [e, clnA_yes hc, orgL_yes ha hd hc]; simp only [ofL_list]
theorem orgV_F {f : Int} {h : ByteArray} {l : List UInt8} (e : (orgV l).2.2 = true) : orgF f h l = (⟨f, h, (orgV l).1, (orgV l).2.1⟩, 0) := by
  rw [orgF_yes (orgV_some e), ofL_data, ofL_data]
def OAns (w : World) (l : List UInt8) (e : Ending) (w' : World) : Prop := e = .returned (.tuple #[.string (orgV l).1, .string (orgV l).2.1, .bool (orgV l).2.2]) ∧ Mods [] w w'
theorem OAns.mk' {w w' : World} {l : List UInt8} {a b : ByteArray} {c : Bool} (h : orgV l = (a, b, c)) (hm : Mods [] w w') : OAns w l (.returned (.tuple #[.string a, .string b, .bool c])) w' := by
  unfold OAns; rw [h]; exact ⟨rfl, hm⟩

set_option maxRecDepth 10000 in
set_option maxHeartbeats 1000000 in
theorem origin_r (s : ByteArray) (hs : s.size ≤ 1000000) (w : World) : Calls Try.prog 29 #[.string s] w (OAns w s.data.toList) := by
  have HLN := Lib.hid (len_data s)
  go_enter Try.func29, Try.ntmps29
  go_wp2
  go_loop [7] (fun i => ∃ (k : Nat), k ≤ s.size ∧ i = .int .i64 k ∧ (s.data.toList.take k).all allowB = true) (fun i => s.size - (intOf i).toNat)
  case atStart => exact ⟨0, Nat.zero_le _, rfl, rfl⟩
  case round =>
    obtain ⟨k, hk, rfl, hall⟩ := hrel
    have HA := Lib.hid hall
    clear hall
    by_cases hlt : k < s.size
    · cases hp : allowB s[k] with
      | true =>
        have HN := Lib.hid (take_all hlt HA.out hp)
        have HC := Lib.hid (fun w => hp ▸ allowed_r s[k] w)
        clear hp
        go_wp2_with (go_at_call 49; refine (HC.out _).mono ?_; rintro e w' ⟨rfl, rfl⟩)
        go_round
        case rel => exact ⟨k + 1, by omega, by go_num, HN.out⟩
        case measure => simp [intOf]; omega
      | false =>
        have HX := Lib.hid (orgV_bad (all_bad hlt hp))
        have HC := Lib.hid (fun w => hp ▸ allowed_r s[k] w)
        clear hp
        go_wp2_with (go_at_call 49; refine (HC.out _).mono ?_; rintro e w' ⟨rfl, rfl⟩)
        go_ret3
        exact OAns.mk' HX.out (Mods.refl _ _)
    · have hal := take_end hlt HA.out
      have HAL := Lib.hid hal
      clear hal HA
      go_wp2
      go_loop [5, 6, 8] (fun pa qa i => ∃ (j : Nat), j ≤ s.size ∧ i = .int .i64 j ∧ pa = .string s ∧ qa = .string ⟨#[]⟩ ∧ (s.data.toList.take j).all (fun c => !isC 63 c) = true) (fun _ _ i => s.size - (intOf i).toNat)
      case atStart => exact ⟨0, Nat.zero_le _, rfl, rfl, rfl, rfl⟩
      case round =>
        obtain ⟨j, hj, rfl, rfl, rfl, hno⟩ := hrel
        have HN := Lib.hid hno
        clear hno
        by_cases hlt2 : j < s.size
        · by_cases hc : s[j] = 63
          · have hup := upL_first (p := isC 63) hlt2 HN.out (by rw [hc]; rfl)
            have hul : (s.extract 0 j).data.toList = upL (isC 63) s.data.toList := by rw [ext_to, upL_take (isC 63) s.data.toList, hup]
            have hvl := ext_from s (j + 1)
            have hus := ext_le s 0 j
            have e1 : ((s[j].toNat : Int) == 63) = true := by rw [hc]; rfl
            have c1 : (0 : Int) ≤ (j : Int) := by omega
            have c2 : (j : Int) ≤ (s.size : Int) := by omega
            have c3 : (0 : Int) ≤ (j : Int) + 1 := by omega
            have c4 : (j : Int) + 1 ≤ (s.size : Int) := by omega
            obtain ⟨u, hu⟩ : ∃ u, u = s.extract 0 j := ⟨_, rfl⟩
            obtain ⟨v, hv⟩ : ∃ v, v = s.extract (j + 1) s.size := ⟨_, rfl⟩
            rw [← hu] at hul hus
            rw [← hv] at hvl
            have HU := Lib.hid hu
            have HV := Lib.hid hv
            have HVL := Lib.hid (show v = ofL (s.data.toList.drop ((upL (isC 63) s.data.toList).length + 1)) by rw [hup, ← hvl, ofL_data])
            have HUL := Lib.hid hul
            clear hc hup hul hvl hu hv
            have HD := Lib.hid (fun w => decode_r u (by omega) w)
            cases hd : decL u.data.toList with
            | none =>
              have HX := Lib.hid (orgV_dec HAL.out (by rw [← HUL.out]; exact hd))
              rw [decA_no hd] at HD
              clear hd
              go_wp2
              go_quiet (fail)
              rw [← HU.out, ← HV.out]
              go_wp2_with (go_at_call 17; refine (HD.out _).mono ?_; rintro e w1 ⟨rfl, hm⟩; have M1 := Lib.hid hm; clear hm)
              go_ret3
              exact OAns.mk' HX.out (((Mods.refl _ _).drewN _).on M1.out)
            | some d =>
              have hds : d.length ≤ 1000000 := by have := decL_len _ _ hd; rw [len_data] at this; omega
              have hx := orgV_yes HAL.out (by rw [← HUL.out]; exact hd)
              rw [← HVL.out] at hx
              rw [decA_yes hd] at HD
              have HCL := Lib.hid (fun w => clean_r (ofL d) (by rw [ofL_size]; exact hds) w)
              rw [ofL_list] at HCL
              generalize clnA d = cr at HCL hx
              obtain ⟨ca, cb⟩ := cr
              have HX := Lib.hid hx
              clear hd hds hx
              go_wp2
              go_quiet (fail)
              rw [← HU.out, ← HV.out]
              go_wp2_with (first
                | (go_at_call 17; refine (HD.out _).mono ?_; rintro e w1 ⟨rfl, hm⟩; have M1 := Lib.hid hm; clear hm)
                | (go_at_call 19; refine (HCL.out _).mono ?_; rintro e w2 ⟨rfl, hm⟩; have M2 := Lib.hid (M1.out.on hm); clear hm))
              go_ret3
              exact OAns.mk' HX.out (((Mods.refl _ _).drewN _).on M2.out)
          · have HN2 := Lib.hid (take_all hlt2 HN.out (show (!isC 63 s[j]) = true by unfold isC; simp [hc]))
            have e1 : ((s[j].toNat : Int) == 63) = false := by have := (b_no 63 hc).1; simpa using this
            clear hc
            go_wp2
            go_round
            case rel => exact ⟨j + 1, by omega, by go_num, rfl, rfl, HN2.out⟩
            case measure => simp [intOf]; omega
        · have hsn := take_end hlt2 HN.out
          have hup : upL (isC 63) s.data.toList = s.data.toList := upL_none hsn
          have HUL := Lib.hid hup.symm
          have HVL := Lib.hid (show (⟨#[]⟩ : ByteArray) = ofL (s.data.toList.drop ((upL (isC 63) s.data.toList).length + 1)) by rw [hup, List.drop_of_length_le (by omega)]; rfl)
          clear hsn hup
          have HD := Lib.hid (fun w => decode_r s (by omega) w)
          cases hd : decL s.data.toList with
          | none =>
            have HX := Lib.hid (orgV_dec HAL.out (by rw [← HUL.out]; exact hd))
            rw [decA_no hd] at HD
            clear hd
            go_wp2_with (go_at_call 17; refine (HD.out _).mono ?_; rintro e w1 ⟨rfl, hm⟩; have M1 := Lib.hid hm; clear hm)
            go_ret3
            exact OAns.mk' HX.out M1.out
          | some d =>
            have hds : d.length ≤ 1000000 := by have := decL_len _ _ hd; rw [len_data] at this; omega
            have hx := orgV_yes HAL.out (by rw [← HUL.out]; exact hd)
            rw [← HVL.out] at hx
            rw [decA_yes hd] at HD
            have HCL := Lib.hid (fun w => clean_r (ofL d) (by rw [ofL_size]; exact hds) w)
            rw [ofL_list] at HCL
            generalize clnA d = cr at HCL hx
            obtain ⟨ca, cb⟩ := cr
            have HX := Lib.hid hx
            clear hd hds hx
            go_wp2_with (first
              | (go_at_call 17; refine (HD.out _).mono ?_; rintro e w1 ⟨rfl, hm⟩; have M1 := Lib.hid hm; clear hm)
              | (go_at_call 19; refine (HCL.out _).mono ?_; rintro e w2 ⟨rfl, hm⟩; have M2 := Lib.hid (M1.out.on hm); clear hm))
            go_ret3
            exact OAns.mk' HX.out M2.out
end Go.Proofs.Ytgckpoecdaioiaa
