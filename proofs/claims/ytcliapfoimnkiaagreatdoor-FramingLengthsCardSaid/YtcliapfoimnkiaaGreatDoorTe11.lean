/- Host of the document. Conditions: a text of at most a million bytes. -/
import Derived.Test.YtcliapfoimnkiaaGreatDoorTb11
import Derived.Deep.CutBlock
namespace Go.Proofs.YtcliapfoimnkiaaGreatDoor
open Go.RowKit
set_option linter.unusedVariables false
set_option linter.unusedSimpArgs false

theorem nm_len {s : ByteArray} {k : Nat} (hk : k < s.size) (h0 : (s.data.toList.take k).all nameB = true) (h : nameB s[k] = false) : (nmL s.data.toList).length = k := by
  unfold nmL
  exact upL_first (p := fun c => !nameB c) hk (by simpa using h0) (by simp [h])
theorem nm_full {s : ByteArray} (h0 : s.data.toList.all nameB = true) : (nmL s.data.toList).length = s.size := by
  have : nmL s.data.toList = s.data.toList := upL_all fun x hx => by simp [List.all_eq_true.1 h0 x hx]
  rw [this, len_data]
theorem name_al {c : UInt8} (h : alB c = true) : nameB c = true := by unfold nameB; rw [h]; rfl
theorem name_45 {c : UInt8} (h : c = 45) : nameB c = true := by subst h; decide +kernel
theorem name_46 {c : UInt8} (h : c = 46) : nameB c = true := by subst h; decide +kernel
theorem name_no {c : UInt8} (h : alB c = false) (h1 : c ≠ 45) (h2 : c ≠ 46) : nameB c = false := by
  unfold nameB inL; rw [h]
  simp only [List.any_cons, List.any_nil, Bool.or_false, Bool.false_or, Bool.or_eq_false_iff, beq_eq_false_iff_ne]
  exact ⟨Ne.symm h1, Ne.symm h2⟩
theorem b_yes {c : UInt8} (d : UInt8) (h : c = d) : ((c.toNat : Int) == (d.toNat : Int)) = true ∧ ((c.toNat : Int) != (d.toNat : Int)) = false := by subst h; simp
theorem b_no {c : UInt8} (d : UInt8) (h : c ≠ d) : ((c.toNat : Int) == (d.toNat : Int)) = false ∧ ((c.toNat : Int) != (d.toNat : Int)) = true := ne_int h
theorem first_of {u s : ByteArray} {k : Nat} (hl : u.data.toList = s.data.toList.drop k) (hp : 0 < u.size) (hk : k < s.size) : u[0] = s[k] := by
  have e1 := at_listT _ 0 hp
  rw [hl, List.getElem?_drop, Nat.add_zero, at_listT s k hk] at e1
  injection e1 with e1
  exact e1.symm

set_option maxRecDepth 10000 in
set_option maxHeartbeats 1000000 in
theorem host_r (s : ByteArray) (w : World) (hs : s.size ≤ 1000000) : Calls Tryz.prog 37 #[.string s] w fun e w' => e = .returned (.bool (hostL s.data.toList)) ∧ w = w' := by
  have HLN := Lib.hid (len_data s)
  go_enter Tryz.func37, Tryz.ntmps37
  go_wp2
  go_loop [3] (fun i => ∃ (k : Nat), k ≤ s.size ∧ i = .int .i64 k ∧ (s.data.toList.take k).all nameB = true) (fun i => s.size - (intOf i).toNat)
  case atStart => exact ⟨0, Nat.zero_le _, rfl, rfl⟩
  case round =>
    obtain ⟨k, hk, rfl, hall⟩ := hrel
    have HA := Lib.hid hall
    clear hall
    by_cases hlt : k < s.size
    · cases ha : alB s[k] with
      | true =>
        have HN := Lib.hid (take_all hlt HA.out (name_al ha))
        have HC := Lib.hid (fun w => ha ▸ alnum_r s[k] w)
        clear ha
        go_wp2_with (go_at_call 58; refine (HC.out _).mono ?_; rintro e w' ⟨rfl, rfl⟩)
        go_round
        case rel => exact ⟨k + 1, by omega, by go_num, HN.out⟩
        case measure => simp [intOf]; omega
      | false =>
        have HC := Lib.hid (fun w => ha ▸ alnum_r s[k] w)
        by_cases h45 : s[k] = 45
        · have HN := Lib.hid (take_all hlt HA.out (name_45 h45))
          have e1 := (b_yes 45 h45).1
          clear ha h45
          simp only [show ((45 : UInt8).toNat : Int) = 45 from rfl] at e1
          go_wp2_with (go_at_call 58; refine (HC.out _).mono ?_; rintro e w' ⟨rfl, rfl⟩)
          go_round
          case rel => exact ⟨k + 1, by omega, by go_num, HN.out⟩
          case measure => simp [intOf]; omega
        · have e1 := (b_no 45 h45).1
          simp only [show ((45 : UInt8).toNat : Int) = 45 from rfl] at e1
          by_cases h46 : s[k] = 46
          · have HN := Lib.hid (take_all hlt HA.out (name_46 h46))
            have e2 := (b_yes 46 h46).1
            simp only [show ((46 : UInt8).toNat : Int) = 46 from rfl] at e2
            clear ha h45 h46
            go_wp2_with (go_at_call 58; refine (HC.out _).mono ?_; rintro e w' ⟨rfl, rfl⟩)
            go_round
            case rel => exact ⟨k + 1, by omega, by go_num, HN.out⟩
            case measure => simp [intOf]; omega
          · have e2 := (b_no 46 h46).1
            simp only [show ((46 : UInt8).toNat : Int) = 46 from rfl] at e2
            have hnm := nm_len hlt HA.out (name_no ha h45 h46)
            clear ha h45 h46
            have HNM := Lib.hid hnm
            clear hnm
            by_cases h1 : k < 1
            · have HH := Lib.hid (host_short (l := s.data.toList) (.inl (by rw [HNM.out]; exact h1)))
              have h2 : (k : Int) < 1 := by omega
              clear h1
              go_wp2_with (go_at_call 58; refine (HC.out _).mono ?_; rintro e w' ⟨rfl, rfl⟩)
              go_ret
              exact ⟨ret_bool HH.out.symm, rfl⟩
            · have h2 : decide ((k : Int) < 1) = false := by simp; omega
              by_cases h100 : 100 < k
              · have HH := Lib.hid (host_short (l := s.data.toList) (.inr (by rw [HNM.out]; exact h100)))
                clear h1
                go_wp2_with (go_at_call 58; refine (HC.out _).mono ?_; rintro e w' ⟨rfl, rfl⟩)
                go_ret
                exact ⟨ret_bool HH.out.symm, rfl⟩
              · have h3 : decide (100 < k) = false := by simpa using h100
                have hl := ext_from s k
                have hsz : (s.extract k s.size).size = s.size - k := by rw [ByteArray.size_extract]; omega
                have c0 : (0 : Int) ≤ (k : Int) := by omega
                have c1 : (k : Int) ≤ (s.size : Int) := by omega
                obtain ⟨u, hu⟩ : ∃ u, u = s.extract k s.size := ⟨_, rfl⟩
                rw [← hu] at hl hsz
                have HU := Lib.hid hu
                clear hu
                have hp : 0 < u.size := by omega
                have hus : u.size ≤ 1000000 := by omega
                clear hsz
                have hu0 := first_of hl hp hlt
                have hat := at_listT s k hlt
                obtain ⟨e3, e4⟩ := emp_no hp
                by_cases h58 : s[k] = 58
                · have e5 : ((u[0].toNat : Int) != 58) = false := by rw [hu0, h58]; rfl
                  have hport := host_port (l := s.data.toList) (by rw [HNM.out]; omega) (by rw [HNM.out]; omega) (by rw [HNM.out, hat, h58])
                  rw [HNM.out] at hport
                  have hl2 : s.data.toList.drop (k + 1) = u.data.toList.drop 1 := by rw [hl, List.drop_drop]
                  rw [hl2] at hport
                  clear h58 hu0 hat hl hl2
                  by_cases h6 : 6 < u.size
                  · have HH := Lib.hid (show hostL s.data.toList = false by rw [hport]; exact port_long (by rw [List.length_drop, len_data]; omega))
                    clear hport
                    go_upto_region 7 with (go_at_call 58; refine (HC.out _).mono ?_; rintro e w' ⟨rfl, rfl⟩)
                    rw [← HU.out]
                    go_wp2
                    go_ret
                    exact ⟨ret_bool HH.out.symm, rfl⟩
                  · have hpl := ext_from u 1
                    have hps : (u.extract 1 u.size).size = u.size - 1 := by rw [ByteArray.size_extract]; omega
                    have c2 : (1 : Int) ≤ (u.size : Int) := by omega
                    have h7 : decide (6 < u.size) = false := by simpa using h6
                    obtain ⟨v, hv⟩ : ∃ v, v = u.extract 1 u.size := ⟨_, rfl⟩
                    rw [← hv] at hpl hps
                    rw [← hpl, port_short (by rw [len_data]; omega)] at hport
                    have HNU := Lib.hid (fun w => num_R v w (by omega))
                    unfold NumIs at HNU
                    have HV := Lib.hid hv
                    have HH := Lib.hid hport
                    clear hv hport hpl hps
                    obtain ⟨n, hn⟩ : ∃ n, n = (numB 10 15 v.data.toList).1 := ⟨_, rfl⟩
                    obtain ⟨ok, hok⟩ : ∃ ok, ok = (numB 10 15 v.data.toList).2 := ⟨_, rfl⟩
                    rw [← hn, ← hok] at HH HNU
                    clear hn hok
                    cases ok with
                    | false =>
                      go_upto_region 7 with (go_at_call 58; refine (HC.out _).mono ?_; rintro e w' ⟨rfl, rfl⟩)
                      rw [← HU.out]
                      go_wp2_with (
                        (go_at_call 38; rw [← HV.out]; refine (HNU.out _).mono ?_; rintro e w' ⟨rfl, rfl⟩))
                      go_ret
                      exact ⟨ret_bool (by rw [HH.out]; rfl), rfl⟩
                    | true =>
                      go_upto_region 7 with (go_at_call 58; refine (HC.out _).mono ?_; rintro e w' ⟨rfl, rfl⟩)
                      rw [← HU.out]
                      go_wp2_with (
                        (go_at_call 38; rw [← HV.out]; refine (HNU.out _).mono ?_; rintro e w' ⟨rfl, rfl⟩))
                      go_ret
                      exact ⟨ret_bool (by rw [HH.out]; simp), rfl⟩
                · have e5 : ((u[0].toNat : Int) != 58) = true := by rw [hu0]; have := (b_no 58 h58).2; simpa using this
                  have HH := Lib.hid (host_else (l := s.data.toList) (c := s[k]) (by rw [HNM.out, hat]) h58)
                  clear h58 hu0 hat hl
                  go_upto_region 7 with (go_at_call 58; refine (HC.out _).mono ?_; rintro e w' ⟨rfl, rfl⟩)
                  rw [← HU.out]
                  go_wp2
                  go_ret
                  exact ⟨ret_bool HH.out.symm, rfl⟩
    · obtain rfl : k = s.size := by omega
      have hnm := nm_full (take_end hlt HA.out)
      have HNM := Lib.hid hnm
      clear hnm
      by_cases h1 : s.size < 1
      · have HH := Lib.hid (host_short (l := s.data.toList) (.inl (by rw [HNM.out]; exact h1)))
        have h2 : (s.size : Int) < 1 := by omega
        clear h1
        go_wp2
        go_ret
        exact ⟨ret_bool HH.out.symm, rfl⟩
      · have h2 : decide ((s.size : Int) < 1) = false := by simp; omega
        by_cases h100 : 100 < s.size
        · have HH := Lib.hid (host_short (l := s.data.toList) (.inr (by rw [HNM.out]; exact h100)))
          clear h1
          go_wp2
          go_ret
          exact ⟨ret_bool HH.out.symm, rfl⟩
        · have h3 : decide (100 < s.size) = false := by simpa using h100
          have HH := Lib.hid (host_bare (l := s.data.toList) (by rw [HNM.out]; omega) (by rw [HNM.out]; omega) (by rw [HNM.out]; exact HLN.out.symm))
          have hsz : (s.extract s.size s.size).size = 0 := by rw [ByteArray.size_extract]; omega
          have e3 := emp_yes hsz
          go_wp2
          go_ret
          exact ⟨ret_bool HH.out.symm, rfl⟩
end Go.Proofs.YtcliapfoimnkiaaGreatDoor
