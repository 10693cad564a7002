/- Parse of the document. Conditions: a method and a text of at most a million bytes. -/
import Derived.Test.YtgkhelbpccehcaaGreatDoorMQC
import Derived.Test.YtgkhelbpccehcaaGreatDoorLiM
import Derived.Test.YtgkhelbpccehcaaGreatDoorMQA
import Derived.Test.YtgkhelbpccehcaaGreatDoorMQB
import Derived.Test.YtgkhelbpccehcaaGreatDoorDigits
import Derived.Test.YtgkhelbpccehcaaGreatDoorLowerR
import Derived.Test.YtgkhelbpccehcaaGreatDoorHs9
import Derived.Deep.RegionWith
import Derived.Deep.RegionHeld3
import Derived.BigRegion
import Derived.Test.YtgkhelbpccehcaaGreatDoorLz9
namespace Go.Proofs.YtgkhelbpccehcaaGreatDoor
open Go.RowKit
set_option linter.unusedVariables false
set_option linter.unusedSimpArgs false

theorem sameL_iffT (a b : ByteArray) : sameL a b = ((ofL (lowL a.data.toList)).toList == (ofL (lowL b.data.toList)).toList) := by
  unfold sameL
  rw [ByteArray.toList_eq, ByteArray.toList_eq, ofL_list, ofL_list, Bool.eq_iff_iff, decide_eq_true_iff, beq_iff_eq]
theorem sameR (a b : ByteArray) (ha : a.size ≤ 1000000) (hb : b.size ≤ 1000000) (w : World) : Calls Tryz.prog 79 #[.string a, .string b] w fun e w' => e = .returned (.bool (sameL a b)) ∧ Mods [] w w' := by
  rw [sameL_iffT]
  have HA := Lib.hid (fun w => lowerR a ha w)
  have HB := Lib.hid (fun w => lowerR b hb w)
  obtain ⟨x, hx⟩ : ∃ x : ByteArray, x = ofL (lowL a.data.toList) := ⟨_, rfl⟩
  obtain ⟨y, hy⟩ : ∃ y : ByteArray, y = ofL (lowL b.data.toList) := ⟨_, rfl⟩
  rw [← hx] at HA ⊢
  rw [← hy] at HB ⊢
  clear hx hy
  go_enter Tryz.func79, Tryz.ntmps79
  go_wp2_with fail
  refine (HA.out _).mono ?_
  rintro e w1 ⟨rfl, hm⟩
  have M1 := Lib.hid hm
  clear hm
  go_wp2_with fail
  refine (HB.out _).mono ?_
  rintro e w2 ⟨rfl, hm⟩
  have M2 := Lib.hid (M1.out.on hm)
  clear hm
  go_wp2
  go_ret
  exact ⟨rfl, M2.out⟩
theorem end_first {s : ByteArray} {k : Nat} (hk : k < s.size) (h0 : (s.data.toList.take k).all (fun c => !endB c) = true) (h : endB s[k] = true) : hostOf s.data.toList = s.data.toList.take k := by
  unfold hostOf
  rw [upL_take, upL_first hk h0 h]
theorem end_none {s : ByteArray} (h0 : s.data.toList.all (fun c => !endB c) = true) : hostOf s.data.toList = s.data.toList := upL_none h0

set_option maxRecDepth 10000 in
set_option maxHeartbeats 1000000 in
theorem absolute_r (s : ByteArray) (hs : s.size ≤ 900000) (w : World) : Calls Tryz.prog 101 #[.string s] w (TAns w (absL s.data.toList)) := by
  have HLN := Lib.hid (len_data s)
  go_enter Tryz.func101, Tryz.ntmps101
  go_wp2
  obtain ⟨w0, hw0⟩ : ∃ w0, w0 = w.alloc (.cells #[.int .i64 0, .string ⟨#[]⟩, .string ⟨#[]⟩, .string ⟨#[]⟩] 37) := ⟨_, rfl⟩
  obtain ⟨n0, hn0⟩ : ∃ n0, n0 = w.heap.size := ⟨_, rfl⟩
  have HR0 := Lib.hid (show Row w0 n0 37 noT.cells by rw [hw0, hn0]; exact Row.new w _ _)
  have HM0 := Lib.hid (show Mods [] w w0 by rw [hw0]; exact (Mods.refl [] w).alloc _)
  have HN0 := Lib.hid (show w.heap.size ≤ n0 by omega)
  rw [← hw0, ← hn0]
  clear hw0 hn0
  go_loop [4] (fun i => ∃ (k : Nat), k ≤ s.size ∧ i = .int .i64 k ∧ (s.data.toList.take k).all (fun c => !endB c) = true) (fun i => s.size - (intOf i).toNat)
  case atStart => exact ⟨0, Nat.zero_le _, rfl, rfl⟩
  case round =>
    obtain ⟨k, hk, rfl, hall⟩ := hrel
    have HA := Lib.hid hall
    clear hall
    have hul := ext_to s k
    have hus := ext_le s 0 k
    have hvl := ext_from s k
    have hvs : (s.extract k s.size).size = s.size - k := by rw [ByteArray.size_extract]; omega
    have c1 : (0 : Int) ≤ (k : Int) := by omega
    have c2 : (k : Int) ≤ (s.size : Int) := by omega
    have hvz : (s.extract k s.size).size ≤ 900000 := by omega
    obtain ⟨u, hu⟩ : ∃ u, u = s.extract 0 k := ⟨_, rfl⟩
    obtain ⟨v, hv⟩ : ∃ v, v = s.extract k s.size := ⟨_, rfl⟩
    rw [← hu] at hul hus
    rw [← hv] at hvl hvs hvz
    have HU := Lib.hid hu
    have HV := Lib.hid hv
    clear hu hv
    have HH := Lib.hid (fun w => host_r u w (by omega))
    have HL := Lib.hid (fun w => lowerR u (by omega) w)
    by_cases hlt : k < s.size
    · have hp : 0 < v.size := by omega
      have hv0 := first_of hvl hp hlt
      obtain ⟨e3, e4⟩ := emp_no hp
      by_cases h47 : s[k] = 47
      · have hho := end_first hlt HA.out (show endB s[k] = true by rw [h47]; rfl)
        have e1 : ((s[k].toNat : Int) != 47) = false := by rw [h47]; rfl
        have e5 : ((v[0].toNat : Int) != 47) = false := by rw [hv0, h47]; rfl
        have hrest : restOf s.data.toList = v.data.toList := by
          unfold restOf
          rw [hho, take_len s hk, ← hvl, if_pos]
          have := drop_cons v 0 hp
          rw [List.drop_zero] at this
          rw [this, hv0, h47]; rfl
        clear h47 hv0
        rw [hul, ← hho] at HH HL
        have hjs : v.size ≤ 1000000 := by omega
        have HO := Lib.hid (fun w => origin_r v hjs w)
        unfold OAns at HO
        rw [← hrest] at HO
        cases hh : hostL (hostOf s.data.toList) with
        | false =>
          rw [hh] at HH
          have HX := Lib.hid (absL_no hh)
          clear hh hrest hho hul hus hvl hvs
          obtain ⟨c0, c1, c2, c3, f0, f1, f2, f3⟩ := HR0.out.facts
          simp only [noT, noB] at c0 c1 c2 c3
          go_wp2_with (go_at_call 97; (try rw [← HU.out]); refine (HH.out _).mono ?_; rintro e w' ⟨rfl, rfl⟩)
          exact end_T rfl HR0.out rfl rfl rfl HX.out HM0.out HN0.out
        | true =>
          rw [hh] at HH
          have hx := absL_yes hh
          generalize hov : orgV (restOf s.data.toList) = ov at HO
          obtain ⟨pa, qa, ok⟩ := ov
          obtain ⟨lh, hlh⟩ : ∃ lh, lh = ofL (lowL (hostOf s.data.toList)) := ⟨_, rfl⟩
          rw [← hlh] at hx HL
          cases ok with
          | false =>
            have HX := Lib.hid (hx.trans (orgF_no (orgV_no (by rw [hov]))))
            clear hh hrest hho hul hus hvl hvs hov hlh hx
            go_upto_region 7 with (go_at_call 97; (try rw [← HU.out]); refine (HH.out _).mono ?_; rintro e w' ⟨rfl, rfl⟩)
            rw [← HV.out]
            go_wp2_with (go_at_call 100; (try rw [← HV.out]); refine (HO.out _).mono ?_; rintro e w1 ⟨rfl, hm⟩; have R1 := Lib.hid (HR0.out.mods hm (by simp)); have M1 := Lib.hid (HM0.out.on hm); obtain ⟨c0, c1, c2, c3, f0, f1, f2, f3⟩ := R1.out.facts; simp only [noT, noB] at c0 c1 c2 c3; clear hm)
            exact end_T rfl R1.out rfl rfl rfl HX.out M1.out HN0.out
          | true =>
            have HX := Lib.hid (hx.trans (orgV_F (f := 2) (h := lh) (by rw [hov])))
            rw [hov] at HX
            clear hh hrest hho hul hus hvl hvs hov hlh hx
            go_upto_region 7 with (go_at_call 97; (try rw [← HU.out]); refine (HH.out _).mono ?_; rintro e w' ⟨rfl, rfl⟩)
            rw [← HV.out]
            go_wp2_with (first
              | (go_at_call 100; (try rw [← HV.out]); refine (HO.out _).mono ?_; rintro e w1 ⟨rfl, hm⟩; have R1 := Lib.hid (HR0.out.mods hm (by simp)); have M1 := Lib.hid (HM0.out.on hm); clear hm)
              | (go_at_call 99; (try rw [← HU.out]); refine (HL.out _).mono ?_; rintro e w2 ⟨rfl, hm⟩; have R2 := Lib.hid (R1.out.mods hm (by simp)); have M2 := Lib.hid (M1.out.on hm); obtain ⟨c0, c1, c2, c3, f0, f1, f2, f3⟩ := R2.out.facts; simp only [noT, noB] at c0 c1 c2 c3; clear hm))
            exact end_T rfl R2.out rfl rfl rfl HX.out M2.out HN0.out
      · have e1 : ((s[k].toNat : Int) != 47) = true := by have := (b_no 47 h47).2; simpa using this
        by_cases h63 : s[k] = 63
        · have hho := end_first hlt HA.out (show endB s[k] = true by rw [h63]; rfl)
          have e2 : ((s[k].toNat : Int) != 63) = false := by rw [h63]; rfl
          have e5 : ((v[0].toNat : Int) != 47) = true := by rw [hv0, h63]; rfl
          have hrest : restOf s.data.toList = 47 :: v.data.toList := by
            unfold restOf
            rw [hho, take_len s hk, ← hvl, if_neg]
            have := drop_cons v 0 hp
            rw [List.drop_zero] at this
            rw [this, hv0, h63]; simp [slashL]
          clear h63 h47 hv0
          rw [hul, ← hho] at HH HL
          have hjl : (⟨#[47]⟩ ++ v : ByteArray).data.toList = restOf s.data.toList := by rw [ByteArray.data_append, Array.toList_append, hrest]; rfl
          have hjs : (⟨#[47]⟩ ++ v : ByteArray).size ≤ 1000000 := by rw [ByteArray.size_append]; show 1 + _ ≤ _; omega
          obtain ⟨jt, hjt⟩ : ∃ jt, jt = (⟨#[47]⟩ ++ v : ByteArray) := ⟨_, rfl⟩
          rw [← hjt] at hjl hjs
          have HO := Lib.hid (fun w => origin_r jt hjs w)
          unfold OAns at HO
          rw [hjl] at HO
          have HJT := Lib.hid hjt
          clear hjl hjt
          cases hh : hostL (hostOf s.data.toList) with
          | false =>
            rw [hh] at HH
            have HX := Lib.hid (absL_no hh)
            clear hh hrest hho hul hus hvl hvs
            obtain ⟨c0, c1, c2, c3, f0, f1, f2, f3⟩ := HR0.out.facts
            simp only [noT, noB] at c0 c1 c2 c3
            go_wp2_with (go_at_call 97; (try rw [← HU.out]); refine (HH.out _).mono ?_; rintro e w' ⟨rfl, rfl⟩)
            exact end_T rfl HR0.out rfl rfl rfl HX.out HM0.out HN0.out
          | true =>
            rw [hh] at HH
            have hx := absL_yes hh
            generalize hov : orgV (restOf s.data.toList) = ov at HO
            obtain ⟨pa, qa, ok⟩ := ov
            obtain ⟨lh, hlh⟩ : ∃ lh, lh = ofL (lowL (hostOf s.data.toList)) := ⟨_, rfl⟩
            rw [← hlh] at hx HL
            cases ok with
            | false =>
              have HX := Lib.hid (hx.trans (orgF_no (orgV_no (by rw [hov]))))
              clear hh hrest hho hul hus hvl hvs hov hlh hx
              go_upto_region 7 with (go_at_call 97; (try rw [← HU.out]); refine (HH.out _).mono ?_; rintro e w' ⟨rfl, rfl⟩)
              rw [← HV.out]
              go_wp2_with (go_at_call 100; (try rw [← HV.out]); (try rw [← HJT.out]); refine (HO.out _).mono ?_; rintro e w1 ⟨rfl, hm⟩; have R1 := Lib.hid (HR0.out.mods hm (by simp)); have M1 := Lib.hid (HM0.out.on hm); obtain ⟨c0, c1, c2, c3, f0, f1, f2, f3⟩ := R1.out.facts; simp only [noT, noB] at c0 c1 c2 c3; clear hm)
              exact end_T rfl R1.out rfl rfl rfl HX.out M1.out HN0.out
            | true =>
              have HX := Lib.hid (hx.trans (orgV_F (f := 2) (h := lh) (by rw [hov])))
              rw [hov] at HX
              clear hh hrest hho hul hus hvl hvs hov hlh hx
              go_upto_region 7 with (go_at_call 97; (try rw [← HU.out]); refine (HH.out _).mono ?_; rintro e w' ⟨rfl, rfl⟩)
              rw [← HV.out]
              go_wp2_with (first
                | (go_at_call 100; (try rw [← HV.out]); (try rw [← HJT.out]); refine (HO.out _).mono ?_; rintro e w1 ⟨rfl, hm⟩; have R1 := Lib.hid (HR0.out.mods hm (by simp)); have M1 := Lib.hid (HM0.out.on hm); clear hm)
                | (go_at_call 99; (try rw [← HU.out]); refine (HL.out _).mono ?_; rintro e w2 ⟨rfl, hm⟩; have R2 := Lib.hid (R1.out.mods hm (by simp)); have M2 := Lib.hid (M1.out.on hm); obtain ⟨c0, c1, c2, c3, f0, f1, f2, f3⟩ := R2.out.facts; simp only [noT, noB] at c0 c1 c2 c3; clear hm))
              exact end_T rfl R2.out rfl rfl rfl HX.out M2.out HN0.out
        · have e2 : ((s[k].toNat : Int) != 63) = true := by have := (b_no 63 h63).2; simpa using this
          have HN := Lib.hid (take_all hlt HA.out (show (!endB s[k]) = true by unfold endB isC; simp [h47, h63]))
          clear h63 h47 hv0 hul hus hvl hvs
          go_wp2
          go_round
          case rel => exact ⟨k + 1, by omega, by go_num, HN.out⟩
          case measure => simp [intOf]; omega
    · obtain rfl : k = s.size := by omega
      have hus2 : s = u := (HU.out.trans (ext_all s)).symm
      subst hus2
      have hho0 := end_none (take_end hlt HA.out)
      have hho : hostOf s.data.toList = s.data.toList.take s.size := by rw [hho0, ← HLN.out, List.take_length]
      have hv0 : v.size = 0 := by omega
      have e3 := emp_yes hv0
      have hrest : restOf s.data.toList = 47 :: v.data.toList := by
        unfold restOf
        rw [hho, take_len s hk, ← hvl, if_neg]
        rw [nil_data hv0]; simp [slashL]
      replace HV := Lib.hid (show v = ByteArray.empty from bytes_ext (nil_data hv0))
      clear hho0 hv0
      rw [hul, ← hho] at HH HL
      have hjl : (⟨#[47]⟩ ++ v : ByteArray).data.toList = restOf s.data.toList := by rw [ByteArray.data_append, Array.toList_append, hrest]; rfl
      have hjs : (⟨#[47]⟩ ++ v : ByteArray).size ≤ 1000000 := by rw [ByteArray.size_append]; show 1 + _ ≤ _; omega
      obtain ⟨jt, hjt⟩ : ∃ jt, jt = (⟨#[47]⟩ ++ v : ByteArray) := ⟨_, rfl⟩
      rw [← hjt] at hjl hjs
      have HO := Lib.hid (fun w => origin_r jt hjs w)
      unfold OAns at HO
      rw [hjl] at HO
      have HJT := Lib.hid hjt
      clear hjl hjt
      cases hh : hostL (hostOf s.data.toList) with
      | false =>
        rw [hh] at HH
        have HX := Lib.hid (absL_no hh)
        clear hh hrest hho hul hus hvl hvs
        obtain ⟨c0, c1, c2, c3, f0, f1, f2, f3⟩ := HR0.out.facts
        simp only [noT, noB] at c0 c1 c2 c3
        go_wp2_with (go_at_call 97; (try rw [← HU.out]); refine (HH.out _).mono ?_; rintro e w' ⟨rfl, rfl⟩)
        exact end_T rfl HR0.out rfl rfl rfl HX.out HM0.out HN0.out
      | true =>
        rw [hh] at HH
        have hx := absL_yes hh
        generalize hov : orgV (restOf s.data.toList) = ov at HO
        obtain ⟨pa, qa, ok⟩ := ov
        obtain ⟨lh, hlh⟩ : ∃ lh, lh = ofL (lowL (hostOf s.data.toList)) := ⟨_, rfl⟩
        rw [← hlh] at hx HL
        cases ok with
        | false =>
          have HX := Lib.hid (hx.trans (orgF_no (orgV_no (by rw [hov]))))
          clear hh hrest hho hul hus hvl hvs hov hlh hx
          go_upto_region 7 with (go_at_call 97; (try rw [← HU.out]); refine (HH.out _).mono ?_; rintro e w' ⟨rfl, rfl⟩)
          rw [← HV.out]
          go_wp2_with (go_at_call 100; (try rw [← HV.out]); (try rw [← HJT.out]); refine (HO.out _).mono ?_; rintro e w1 ⟨rfl, hm⟩; have R1 := Lib.hid (HR0.out.mods hm (by simp)); have M1 := Lib.hid (HM0.out.on hm); obtain ⟨c0, c1, c2, c3, f0, f1, f2, f3⟩ := R1.out.facts; simp only [noT, noB] at c0 c1 c2 c3; clear hm)
          exact end_T rfl R1.out rfl rfl rfl HX.out M1.out HN0.out
        | true =>
          have HX := Lib.hid (hx.trans (orgV_F (f := 2) (h := lh) (by rw [hov])))
          rw [hov] at HX
          clear hh hrest hho hul hus hvl hvs hov hlh hx
          go_upto_region 7 with (go_at_call 97; (try rw [← HU.out]); refine (HH.out _).mono ?_; rintro e w' ⟨rfl, rfl⟩)
          rw [← HV.out]
          go_wp2_with (first
            | (go_at_call 100; (try rw [← HV.out]); (try rw [← HJT.out]); refine (HO.out _).mono ?_; rintro e w1 ⟨rfl, hm⟩; have R1 := Lib.hid (HR0.out.mods hm (by simp)); have M1 := Lib.hid (HM0.out.on hm); clear hm)
            | (go_at_call 99; (try rw [← HU.out]); refine (HL.out _).mono ?_; rintro e w2 ⟨rfl, hm⟩; have R2 := Lib.hid (R1.out.mods hm (by simp)); have M2 := Lib.hid (M1.out.on hm); obtain ⟨c0, c1, c2, c3, f0, f1, f2, f3⟩ := R2.out.facts; simp only [noT, noB] at c0 c1 c2 c3; clear hm))
          exact end_T rfl R2.out rfl rfl rfl HX.out M2.out HN0.out


theorem slash_zero {s : ByteArray} (h : s.size = 0) : slashL s.data.toList = false := by rw [nil_data h]; rfl
theorem slash_at {s : ByteArray} (h : 0 < s.size) : slashL s.data.toList = decide (s[0] = 47) := by
  have hd := drop_cons s 0 h
  rw [List.drop_zero] at hd
  by_cases hc : s[0] = 47
  · rw [hd, decide_eq_true hc, hc]; rfl
  · rw [hd, decide_eq_false hc, slash_cons hc]

set_option maxRecDepth 10000 in
set_option maxHeartbeats 1000000 in
theorem tparse_r (m s : ByteArray) (w : World) (hm : m.size ≤ 1000000) (hs : s.size ≤ 900000) : Calls Tryz.prog 72 #[.string m, .string s] w (TAns w (parT m.data.toList s.data.toList)) := by
  have hlen := len_data s
  by_cases h200 : 200 < s.size
  · have HX := Lib.hid (parT_long (m := m.data.toList) (l := s.data.toList) h200)
    clear hlen
    go_enter Tryz.func72, Tryz.ntmps72
    go_wp2
    exact end_N rfl rfl rfl rfl HX.out
  · have h201 : decide (200 < s.size) = false := by simpa using h200
    have hl : ¬ 200 < s.data.toList.length := h200
    by_cases hc : m.data.toList = connectL
    · have hx := parT_con hl hc
      have e1 : (m.toList == [67, 79, 78, 78, 69, 67, 84]) = true := text_eq hc
      have HH := Lib.hid (fun w => host_r s w (by omega))
      cases hh : hostL s.data.toList with
      | false =>
        rw [hh] at HH
        have HX := Lib.hid (hx.trans (authL_no (.inl hh)))
        clear hh hx hc hl hlen
        go_enter Tryz.func72, Tryz.ntmps72
        go_wp2_with (go_at_call 97; refine (HH.out _).mono ?_; rintro e w' ⟨rfl, rfl⟩)
        exact end_N rfl rfl rfl rfl HX.out
      | true =>
        rw [hh] at HH
        have HI := Lib.hid (fun w => inR s 58 (by omega) w)
        cases hi : inL s.data.toList 58 with
        | false =>
          rw [hi] at HI
          have HX := Lib.hid (hx.trans (authL_no (.inr hi)))
          clear hh hx hc hl hlen hi
          go_enter Tryz.func72, Tryz.ntmps72
          go_wp2_with (first
            | (go_at_call 97; refine (HH.out _).mono ?_; rintro e w' ⟨rfl, rfl⟩)
            | (go_at_call 98; refine (HI.out _).mono ?_; rintro e w' ⟨rfl, rfl⟩))
          exact end_N rfl rfl rfl rfl HX.out
        | true =>
          rw [hi] at HI
          have hy := hx.trans (authL_yes hh hi)
          have HL := Lib.hid (fun w => lowerR s (by omega) w)
          obtain ⟨lh, hlh⟩ : ∃ lh, lh = ofL (lowL s.data.toList) := ⟨_, rfl⟩
          rw [← hlh] at hy HL
          have HX := Lib.hid hy
          clear hh hx hc hl hlen hi hlh hy
          go_enter Tryz.func72, Tryz.ntmps72
          go_wp2_with (first
            | (go_at_call 97; refine (HH.out _).mono ?_; rintro e w' ⟨rfl, rfl⟩)
            | (go_at_call 98; refine (HI.out _).mono ?_; rintro e w' ⟨rfl, rfl⟩)
            | (go_at_call 99; refine (HL.out _).mono ?_; rintro e w1 ⟨rfl, hm⟩; have r1 := res_T hm; have R1 := Lib.hid r1; obtain ⟨c0, c1, c2, c3, f0, f1, f2, f3⟩ := r1.1.facts; simp only [noT, noB] at c0 c1 c2 c3; clear hm r1))
          exact end_T rfl R1.out.1 rfl rfl rfl HX.out R1.out.2 (Nat.le_refl _)
    · have e1 : (m.toList == [67, 79, 78, 78, 69, 67, 84]) = false := text_ne hc
      by_cases ho : m.data.toList = optionsL ∧ s.data.toList = [42]
      · have HX := Lib.hid (parT_opt hl hc ho)
        have e2 : (m.toList == [79, 80, 84, 73, 79, 78, 83]) = true := text_eq ho.1
        have e3 : (s.toList == [42]) = true := text_eq ho.2
        clear hl hc ho hlen
        go_enter Tryz.func72, Tryz.ntmps72
        go_wp2
        exact end_N rfl rfl rfl rfl HX.out
      · have hopt : ((m.toList == [79, 80, 84, 73, 79, 78, 83]) = false) ∨ ((m.toList == [79, 80, 84, 73, 79, 78, 83]) = true ∧ (s.toList == [42]) = false) := by
          by_cases h1 : m.data.toList = optionsL
          · exact .inr ⟨text_eq h1, text_ne fun h2 => ho ⟨h1, h2⟩⟩
          · exact .inl (text_ne h1)
        rcases Nat.eq_zero_or_pos s.size with h0 | hp
        · have HX := Lib.hid (parT_no hl hc ho (slash_zero h0) (schemeL_short (by rw [hlen]; omega)))
          have e4 : decide (0 < s.size) = false := decide_eq_false (by omega)
          have e5 : decide ((7 : Int) ≤ (s.size : Int)) = false := decide_eq_false (by omega)
          clear hl hc ho hlen
          rcases hopt with e2 | ⟨e2, e3⟩
          · go_enter Tryz.func72, Tryz.ntmps72
            go_wp2
            exact end_N rfl rfl rfl rfl HX.out
          · go_enter Tryz.func72, Tryz.ntmps72
            go_wp2
            exact end_N rfl rfl rfl rfl HX.out
        · have hsa := slash_at hp
          have e4 : decide (0 < s.size) = true := by simpa using hp
          by_cases h47 : s[0] = 47
          · rw [decide_eq_true h47] at hsa
            have hx := parT_org hl hc ho hsa
            have e6 : ((s[0].toNat : Int) == 47) = true := by rw [h47]; rfl
            have HO := Lib.hid (fun w => origin_r s (by omega) w)
            unfold OAns at HO
            generalize hov : orgV s.data.toList = ov at HO
            obtain ⟨pa, qa, ok⟩ := ov
            cases ok with
            | false =>
              have HX := Lib.hid (hx.trans (orgF_no (orgV_no (by rw [hov]))))
              clear hl hc ho hlen h47 hsa hov hx
              rcases hopt with e2 | ⟨e2, e3⟩
              · go_enter Tryz.func72, Tryz.ntmps72
                go_wp2_with (go_at_call 100; refine (HO.out _).mono ?_; rintro e w1 ⟨rfl, hm⟩; have r1 := res_T hm; have R1 := Lib.hid r1; obtain ⟨c0, c1, c2, c3, f0, f1, f2, f3⟩ := r1.1.facts; simp only [noT, noB] at c0 c1 c2 c3; clear hm r1)
                exact end_T rfl R1.out.1 rfl rfl rfl HX.out R1.out.2 (Nat.le_refl _)
              · go_enter Tryz.func72, Tryz.ntmps72
                go_wp2_with (go_at_call 100; refine (HO.out _).mono ?_; rintro e w1 ⟨rfl, hm⟩; have r1 := res_T hm; have R1 := Lib.hid r1; obtain ⟨c0, c1, c2, c3, f0, f1, f2, f3⟩ := r1.1.facts; simp only [noT, noB] at c0 c1 c2 c3; clear hm r1)
                exact end_T rfl R1.out.1 rfl rfl rfl HX.out R1.out.2 (Nat.le_refl _)
            | true =>
              have HX := Lib.hid (hx.trans (orgV_F (f := 1) (h := noB) (by rw [hov])))
              rw [hov] at HX
              clear hl hc ho hlen h47 hsa hov hx
              rcases hopt with e2 | ⟨e2, e3⟩
              · go_enter Tryz.func72, Tryz.ntmps72
                go_wp2_with (go_at_call 100; refine (HO.out _).mono ?_; rintro e w1 ⟨rfl, hm⟩; have r1 := res_T hm; have R1 := Lib.hid r1; obtain ⟨c0, c1, c2, c3, f0, f1, f2, f3⟩ := r1.1.facts; simp only [noT, noB] at c0 c1 c2 c3; clear hm r1)
                exact end_T rfl R1.out.1 rfl rfl rfl HX.out R1.out.2 (Nat.le_refl _)
              · go_enter Tryz.func72, Tryz.ntmps72
                go_wp2_with (go_at_call 100; refine (HO.out _).mono ?_; rintro e w1 ⟨rfl, hm⟩; have r1 := res_T hm; have R1 := Lib.hid r1; obtain ⟨c0, c1, c2, c3, f0, f1, f2, f3⟩ := r1.1.facts; simp only [noT, noB] at c0 c1 c2 c3; clear hm r1)
                exact end_T rfl R1.out.1 rfl rfl rfl HX.out R1.out.2 (Nat.le_refl _)
          · rw [decide_eq_false h47] at hsa
            have e6 : ((s[0].toNat : Int) == 47) = false := by have := (b_no 47 h47).1; simpa using this
            clear h47
            by_cases h7 : 7 ≤ s.size
            · have hel := ext_to s 7
              have hes := ext_le s 0 7
              have hfl := ext_from s 7
              have hfs := ext_le s 7 s.size
              obtain ⟨v, hv⟩ : ∃ v, v = s.extract 0 7 := ⟨_, rfl⟩
              obtain ⟨f, hf⟩ : ∃ f, f = s.extract 7 s.size := ⟨_, rfl⟩
              rw [← hv] at hel hes
              rw [← hf] at hfl hfs
              have HV := Lib.hid hv
              have HF := Lib.hid hf
              have HS := Lib.hid (fun w => sameR v ⟨#[104, 116, 116, 112, 58, 47, 47]⟩ (by omega) (by decide) w)
              have hsc : schemeL s.data.toList = sameL v ⟨#[104, 116, 116, 112, 58, 47, 47]⟩ := by
                rw [schemeL_long (show 7 ≤ s.data.toList.length from h7), ← hel]
                unfold sameL
                rw [show lowL (⟨#[104, 116, 116, 112, 58, 47, 47]⟩ : ByteArray).data.toList = httpL by decide +kernel]
              have c7 : (7 : Int) ≤ (s.size : Int) := by omega
              rw [← hsc] at HS
              cases hb : schemeL s.data.toList with
              | true =>
                rw [hb] at HS
                have hx := parT_abs hl hc ho hsa hb
                have HA := Lib.hid (fun w => absolute_r f (by omega) w)
                rw [hfl] at HA
                unfold TAns at HA
                generalize absL (s.data.toList.drop 7) = r at HA hx
                obtain ⟨⟨fo, h, p, k⟩, n⟩ := r
                simp only [Tgt.cells] at HA
                have HX := Lib.hid hx
                clear hl hc ho hlen hsa hb hx hel hes hfl hv hf hsc
                rcases hopt with e2 | ⟨e2, e3⟩
                · go_enter Tryz.func72, Tryz.ntmps72
                  go_wp2_with (first
                    | (go_at_call 79; (try rw [← HV.out]); refine (HS.out _).mono ?_; rintro e w1 ⟨rfl, hm⟩; have M1 := Lib.hid hm; clear hm)
                    | (go_at_call 101; (try rw [← HF.out]); refine (HA.out _).mono ?_; rintro e w2 ⟨rfl, hm⟩; have r1 := res_T (M1.out.on hm); have R1 := Lib.hid r1; obtain ⟨c0, c1, c2, c3, f0, f1, f2, f3⟩ := r1.1.facts; simp only [noT, noB] at c0 c1 c2 c3; clear hm r1))
                  exact end_T rfl R1.out.1 rfl rfl rfl HX.out R1.out.2 (Nat.le_refl _)
                · go_enter Tryz.func72, Tryz.ntmps72
                  go_wp2_with (first
                    | (go_at_call 79; (try rw [← HV.out]); refine (HS.out _).mono ?_; rintro e w1 ⟨rfl, hm⟩; have M1 := Lib.hid hm; clear hm)
                    | (go_at_call 101; (try rw [← HF.out]); refine (HA.out _).mono ?_; rintro e w2 ⟨rfl, hm⟩; have r1 := res_T (M1.out.on hm); have R1 := Lib.hid r1; obtain ⟨c0, c1, c2, c3, f0, f1, f2, f3⟩ := r1.1.facts; simp only [noT, noB] at c0 c1 c2 c3; clear hm r1))
                  exact end_T rfl R1.out.1 rfl rfl rfl HX.out R1.out.2 (Nat.le_refl _)
              | false =>
                rw [hb] at HS
                have HX := Lib.hid (parT_no hl hc ho hsa hb)
                clear hl hc ho hlen hsa hb hel hes hfl hv hf hsc
                rcases hopt with e2 | ⟨e2, e3⟩
                · go_enter Tryz.func72, Tryz.ntmps72
                  go_wp2_with (go_at_call 79; (try rw [← HV.out]); refine (HS.out _).mono ?_; rintro e w1 ⟨rfl, hm⟩; have r1 := res_T hm; have R1 := Lib.hid r1; obtain ⟨c0, c1, c2, c3, f0, f1, f2, f3⟩ := r1.1.facts; simp only [noT, noB] at c0 c1 c2 c3; clear hm r1)
                  exact end_T rfl R1.out.1 rfl rfl rfl HX.out R1.out.2 (Nat.le_refl _)
                · go_enter Tryz.func72, Tryz.ntmps72
                  go_wp2_with (go_at_call 79; (try rw [← HV.out]); refine (HS.out _).mono ?_; rintro e w1 ⟨rfl, hm⟩; have r1 := res_T hm; have R1 := Lib.hid r1; obtain ⟨c0, c1, c2, c3, f0, f1, f2, f3⟩ := r1.1.facts; simp only [noT, noB] at c0 c1 c2 c3; clear hm r1)
                  exact end_T rfl R1.out.1 rfl rfl rfl HX.out R1.out.2 (Nat.le_refl _)
            · have HX := Lib.hid (parT_no hl hc ho hsa (schemeL_short (by rw [hlen]; exact h7)))
              have e5 : decide ((7 : Int) ≤ (s.size : Int)) = false := decide_eq_false (by omega)
              clear hl hc ho hlen hsa
              rcases hopt with e2 | ⟨e2, e3⟩
              · go_enter Tryz.func72, Tryz.ntmps72
                go_wp2
                exact end_N rfl rfl rfl rfl HX.out
              · go_enter Tryz.func72, Tryz.ntmps72
                go_wp2
                exact end_N rfl rfl rfl rfl HX.out
end Go.Proofs.YtgkhelbpccehcaaGreatDoor

/- Plain facts of chapter 11: a clean path stays, down and up again is the root, http and a host ahead of a path, percents of bytes. No program. -/
namespace Go.Proofs.YtgkhelbpccehcaaGreatDoor
open Go.RowKit
set_option linter.unusedVariables false

/-! A clean path stays as it is. -/
theorem joinS_app (a b : List (List UInt8)) : joinS (a ++ b) = joinS a ++ joinS b := by
  induction a with
  | nil => rfl
  | cons p r ih => simp [joinS, ih]
theorem joinS_slash {st : List (List UInt8)} (h : st ≠ []) (t : List UInt8) : slashL (joinS st ++ t) = true := by
  cases st with
  | nil => exact absurd rfl h
  | cons p r => rfl
theorem split_joinT : ∀ (st : List (List UInt8)), OrdS st → st ≠ [] → splitS (joinS st).tail = st
  | [], _, h => absurd rfl h
  | [p], ho, _ => by
    show splitS (p ++ joinS []) = [p]
    rw [show joinS [] = [] from rfl, List.append_nil]
    exact splitS_no (ho p (by simp)).2
  | p :: q :: r, ho, _ => by
    have ih := split_joinT (q :: r) (fun x hx => ho x (by simp [List.mem_cons.1 hx])) (by simp)
    show splitS (p ++ joinS (q :: r)) = _
    have e : joinS (q :: r) = 47 :: (joinS (q :: r)).tail := rfl
    rw [e, splitS_at (ho p (by simp)).2, ih]
theorem split_join_end (st : List (List UInt8)) (ho : OrdS st) (h : st ≠ []) : splitS (joinS st ++ [47]).tail = st ++ [[]] := by
  have hh : ∀ (st : List (List UInt8)), OrdS st → st ≠ [] → splitS ((joinS st).tail ++ [47]) = st ++ [[]] := by
    intro st
    induction st with
    | nil => intro _ h; exact absurd rfl h
    | cons p r ih =>
      intro ho _
      cases r with
      | nil =>
        show splitS ((p ++ joinS []) ++ [47]) = _
        rw [show joinS [] = [] from rfl, List.append_nil, splitS_at (ho p (by simp)).2]
        rfl
      | cons q r =>
        show splitS ((p ++ joinS (q :: r)) ++ [47]) = _
        have e : joinS (q :: r) = 47 :: (joinS (q :: r)).tail := rfl
        rw [e, List.append_assoc, List.cons_append, splitS_at (ho p (by simp)).2, ih (fun x hx => ho x (by simp [List.mem_cons.1 hx])) (by simp)]
        rfl
  have := hh st ho h
  cases st with
  | nil => exact absurd rfl h
  | cons p r => exact this
theorem clnS_ords : ∀ (ps st : List (List UInt8)), OrdS ps → clnS st ps = some (st ++ ps)
  | [], st, _ => by simp [clnS]
  | p :: r, st, h => by
    rw [clnS_part (h p (by simp)).1, clnS_ords r _ (fun x hx => h x (by simp [hx]))]
    simp
theorem clnS_app : ∀ (a b st : List (List UInt8)), clnS st (a ++ b) = (clnS st a).bind fun s => clnS s b
  | [], b, st => rfl
  | p :: r, b, st => by
    rw [List.cons_append]
    by_cases h2 : p = [46, 46]
    · subst h2
      by_cases he : st = []
      · subst he; rw [clnS_out, clnS_out]; rfl
      · rw [clnS_up he, clnS_up he, clnS_app]
    · cases hd : dotsL p with
      | true => rw [clnS_dot h2 hd, clnS_dot h2 hd, clnS_app]
      | false => rw [clnS_part hd, clnS_part hd, clnS_app]
theorem ord_last {st : List (List UInt8)} (ho : OrdS st) (h : st ≠ []) : dotsL (lastP st) = false := by
  have : lastP st = st.getLast h := by
    conv => lhs; rw [← List.dropLast_concat_getLast h]
    exact lastP_snoc _ _
  rw [this]
  exact (ho _ (List.getLast_mem h)).1
theorem cln_cln {l d : List UInt8} (h : clnL l = some d) : clnL d = some d := by
  cases hs : slashL l with
  | false => rw [clnL_no hs] at h; cases h
  | true =>
    rw [clnL_yes hs] at h
    cases hc : clnS [] (splitS l.tail) with
    | none => rw [hc] at h; cases h
    | some st =>
      rw [hc] at h
      injection h with h
      have ho := clnS_ord _ _ _ (fun p hp => by cases hp) (splitS_parts l.tail) hc
      have h : joinS st ++ tailP (lastP (splitS l.tail)) = d := h
      by_cases he : st = []
      · subst he
        have hd := clnS_last _ _ hc (splitS_ne _)
        unfold tailP at h
        rw [if_pos hd] at h
        subst h
        decide +kernel
      · unfold tailP at h
        by_cases hd : dotsL (lastP (splitS l.tail)) = true
        · rw [if_pos hd] at h
          subst h
          rw [clnL_yes (joinS_slash he _), split_join_end st ho he, clnS_app, clnS_ords _ _ ho, lastP_snoc]
          rfl
        · rw [if_neg hd, List.append_nil] at h
          subst h
          have hsl : slashL (joinS st) = true := by have := joinS_slash he []; rw [List.append_nil] at this; exact this
          rw [clnL_yes hsl, split_joinT st ho he, clnS_ords _ _ ho]
          simp only [List.nil_append, Option.map_some]
          unfold tailP
          rw [if_neg (by rw [ord_last ho he]; simp), List.append_nil]
theorem sumS : ∀ (ps : List (List UInt8)), (joinS ps).length = (ps.map fun p => p.length + 1).foldr (· + ·) 0
  | [] => rfl
  | p :: r => by simp [joinS, sumS r]; omega
theorem splitAt_join : ∀ (l cur : List UInt8), joinS (splitAt cur l) = 47 :: cur ++ l
  | [], cur => by simp [splitAt, joinS]
  | c :: r, cur => by
    simp only [splitAt]
    by_cases h : c = 47
    · rw [if_pos h]; simp only [joinS]; rw [splitAt_join r []]; simp [h]
    · rw [if_neg h, splitAt_join r]; simp
theorem clnS_len : ∀ (ps st r : List (List UInt8)), clnS st ps = some r → (joinS r).length ≤ (joinS st).length + (joinS ps).length
  | [], st, r, h => by simp [clnS] at h; subst h; simp [joinS]
  | p :: q, st, r, h => by
    by_cases h2 : p = [46, 46]
    · subst h2
      by_cases he : st = []
      · subst he; rw [clnS_out] at h; cases h
      · rw [clnS_up he] at h
        have := clnS_len _ _ _ h
        have := join_drop_le st
        simp only [joinS, List.length_cons, List.length_append, List.cons_append]; omega
    · cases hd : dotsL p with
      | true =>
        rw [clnS_dot h2 hd] at h
        have := clnS_len _ _ _ h
        simp only [joinS, List.length_cons, List.length_append, List.cons_append]; omega
      | false =>
        rw [clnS_part hd] at h
        have := clnS_len _ _ _ h
        rw [joinS_snoc] at this
        simp only [joinS, List.length_cons, List.length_append, List.cons_append] at this ⊢; omega
theorem clnL_len {l d : List UInt8} (h : clnL l = some d) : d.length ≤ l.length + 1 := by
  cases hs : slashL l with
  | false => rw [clnL_no hs] at h; cases h
  | true =>
    rw [clnL_yes hs] at h
    cases hc : clnS [] (splitS l.tail) with
    | none => rw [hc] at h; cases h
    | some st =>
      rw [hc] at h
      injection h with h
      have h1 := clnS_len _ _ _ hc
      have h2 : (joinS (splitS l.tail)).length = l.tail.length + 1 := by
        show (joinS (splitAt [] l.tail)).length = _
        rw [splitAt_join]; simp
      have h3 : 0 < l.length := by
        cases l with
        | nil => simp [slashL] at hs
        | cons c r => simp
      have h4 : (tailP (lastP (splitS l.tail))).length ≤ 1 := by unfold tailP; split <;> simp
      rw [← h, List.length_append]
      rw [h2, List.length_tail] at h1
      simp only [joinS, List.length_nil] at h1
      omega

/-! Down and up again. -/
def downL (name : List UInt8) (n : Nat) : List (List UInt8) := List.replicate n name
def upsL (n : Nat) : List (List UInt8) := List.replicate n [46, 46]
theorem clnS_ups (name : List UInt8) : ∀ (n : Nat) (r : List (List UInt8)), clnS (downL name n) (upsL n ++ r) = clnS [] r
  | 0, r => rfl
  | n + 1, r => by
    show clnS (downL name (n + 1)) ([46, 46] :: (upsL n ++ r)) = _
    rw [clnS_up (by simp [downL]), show (downL name (n + 1)).dropLast = downL name n by simp [downL, List.dropLast_replicate], clnS_ups name n r]
theorem split_parts : ∀ (ps : List (List UInt8)) (l : List UInt8), (∀ p ∈ ps, ∀ x ∈ p, x ≠ 47) → splitS ((joinS ps ++ 47 :: l).tail) = ps ++ splitS l
  | [], l, _ => rfl
  | [p], l, h => by
    show splitS ((p ++ joinS []) ++ 47 :: l) = _
    rw [show joinS [] = [] from rfl, List.append_nil, splitS_at (h p (by simp))]
    rfl
  | p :: q :: r, l, h => by
    have ih := split_parts (q :: r) l (fun x hx => h x (by simp [List.mem_cons.1 hx]))
    show splitS ((p ++ joinS (q :: r)) ++ 47 :: l) = _
    have e : joinS (q :: r) = 47 :: (joinS (q :: r)).tail := rfl
    have e2 : (joinS (q :: r) ++ 47 :: l).tail = (joinS (q :: r)).tail ++ 47 :: l := rfl
    rw [e2] at ih
    rw [e, List.append_assoc, List.cons_append, splitS_at (h p (by simp)), ih]
    rfl
theorem parts_up (name : List UInt8) (n : Nat) (hn : ∀ x ∈ name, x ≠ 47) : ∀ p ∈ downL name n ++ upsL n, ∀ x ∈ p, x ≠ 47 := by
  intro p hp
  rcases List.mem_append.1 hp with hp | hp
  · rw [(List.mem_replicate.1 hp).2]; exact hn
  · rw [(List.mem_replicate.1 hp).2]; intro x hx; simp at hx; subst hx; decide
theorem ord_down (name : List UInt8) (n : Nat) (hn : ∀ x ∈ name, x ≠ 47) (hd : dotsL name = false) : OrdS (downL name n) := by
  intro p hp; rw [(List.mem_replicate.1 hp).2]; exact ⟨hd, hn⟩
theorem slash_parts (ps : List (List UInt8)) (l : List UInt8) : slashL (joinS ps ++ 47 :: l) = true := by
  cases ps with
  | nil => rfl
  | cons p r => rfl
theorem up_root (name : List UInt8) (n : Nat) (hn : ∀ x ∈ name, x ≠ 47) (hd : dotsL name = false) : clnL (joinS (downL name n ++ upsL n) ++ [47]) = some [47] := by
  rw [clnL_yes (slash_parts _ _), split_parts _ _ (parts_up name n hn), List.append_assoc, clnS_app, clnS_ords _ _ (ord_down name n hn hd)]
  simp only [Option.bind_some, List.nil_append]
  rw [clnS_ups, ← List.append_assoc, show splitS [] = [[]] from rfl, lastP_snoc]
  rfl
theorem up_out (name : List UInt8) (n : Nat) (hn : ∀ x ∈ name, x ≠ 47) (hd : dotsL name = false) : clnL (joinS (downL name n ++ upsL n) ++ [47, 46, 46]) = none := by
  rw [clnL_yes (slash_parts _ _), split_parts _ _ (parts_up name n hn), List.append_assoc, clnS_app, clnS_ords _ _ (ord_down name n hn hd)]
  simp only [Option.bind_some, List.nil_append]
  rw [clnS_ups, show splitS [46, 46] = [[46, 46]] from by decide +kernel, clnS_out]
  rfl

/-! http and a host ahead. -/
theorem upL_append {p : UInt8 → Bool} {a b : List UInt8} {c : UInt8} (h : ∀ x ∈ a, p x = false) (hc : p c = true) : upL p (a ++ c :: b) = a := upL_at h hc
theorem abs_host {h s : List UInt8} (hh : ∀ x ∈ h, endB x = false) (hs : slashL s = true) : hostOf (h ++ s) = h ∧ restOf (h ++ s) = s := by
  cases s with
  | nil => simp [slashL] at hs
  | cons c r =>
    have hc : c = 47 := by
      unfold slashL at hs; split at hs
      · rename_i he; injection he
      · cases hs
    subst hc
    have e : hostOf (h ++ 47 :: r) = h := upL_at hh (by decide)
    refine ⟨e, ?_⟩
    unfold restOf
    rw [e, List.drop_left, if_pos hs]
theorem lowL_app (a b : List UInt8) : lowL (a ++ b) = lowL a ++ lowL b := by simp [lowL]
theorem scheme_app {x l : List UInt8} (hx : x.length = 7) (h : lowL x = httpL) : schemeL (x ++ l) = true := by
  unfold schemeL
  rw [List.length_append, decide_eq_true (by omega), List.take_append_of_le_length (by omega), List.take_of_length_le (by omega), h]
  simp
theorem par_http {x h s : List UInt8} (hx : x.length = 7) (hl : lowL x = httpL) (hxs : slashL x = false) (hz : h.length + s.length ≤ 150) (hh : ∀ y ∈ h, endB y = false) (hs : slashL s = true) :
    parT getT (x ++ h ++ s) = if hostL h = true then orgF 2 (ofL (lowL h)) s else (noT, 8) := by
  have h1 : ¬ 200 < (x ++ h ++ s).length := by rw [List.length_append, List.length_append]; omega
  have hslash : slashL (x ++ h ++ s) = false := by
    cases x with
    | nil => simp at hx
    | cons c r =>
      have : c ≠ 47 := by intro e; subst e; simp [slashL] at hxs
      exact slash_cons this
  have hsch : schemeL (x ++ h ++ s) = true := by rw [List.append_assoc]; exact scheme_app hx hl
  rw [parT_abs h1 (by decide) (by intro h; exact absurd h.1 (by decide)) hslash hsch]
  have hd : (x ++ h ++ s).drop 7 = h ++ s := by rw [List.append_assoc, ← hx, List.drop_left]
  rw [hd]
  unfold absL
  obtain ⟨e1, e2⟩ := abs_host hh hs
  rw [e1, e2]
theorem par_path {s : List UInt8} (hz : s.length ≤ 150) (hs : slashL s = true) : parT getT s = orgF 1 noB s :=
  parT_org (by omega) (by decide) (by intro h; exact absurd h.1 (by decide)) hs
end Go.Proofs.YtgkhelbpccehcaaGreatDoor

/- How a request goes on: plain functions of chapter 12. No program. -/
namespace Go.Proofs.YtgkhelbpccehcaaGreatDoor
open Go.RowKit
set_option linter.unusedVariables false

def nHost : ByteArray := ⟨#[72, 111, 115, 116]⟩
def nTE : ByteArray := ⟨#[84, 114, 97, 110, 115, 102, 101, 114, 45, 69, 110, 99, 111, 100, 105, 110, 103]⟩
def nCL : ByteArray := ⟨#[67, 111, 110, 116, 101, 110, 116, 45, 76, 101, 110, 103, 116, 104]⟩
def nCon : ByteArray := ⟨#[67, 111, 110, 110, 101, 99, 116, 105, 111, 110]⟩
def nExp : ByteArray := ⟨#[69, 120, 112, 101, 99, 116]⟩
def chunkedL : List UInt8 := [99, 104, 117, 110, 107, 101, 100]
def closeL : List UInt8 := [99, 108, 111, 115, 101]
def keepL : List UInt8 := [107, 101, 101, 112, 45, 97, 108, 105, 118, 101]
def contB : ByteArray := ⟨#[49, 48, 48, 45, 99, 111, 110, 116, 105, 110, 117, 101]⟩
/-- How a request goes on. -/
structure HowP where
  kind : Int
  length : Int
  close : Bool
  expect : Bool
def noH : HowP := ⟨0, 0, false, false⟩
/-- The minor version that counts. -/
def minN (m : Int) : Int := if 1 ≤ m then 1 else 0
def hostOk (m : Int) (vs : List ByteArray) : Bool :=
  match vs with
  | [] => decide (m ≠ 1)
  | [v] => decide (v.data.toList = []) || hostL v.data.toList
  | _ => false
/-- The status of a coding; 0: it is chunked alone. -/
def codS (m : Int) (cl te : List ByteArray) : Int :=
  if m = 0 ∨ cl ≠ [] then 400
  else match toksO te with
    | none => 400
    | some L => if L.getLastD [] ≠ chunkedL then 400 else if L.length = 1 then 0 else if chunkedL ∈ L.dropLast then 400 else 501
/-- The one number that some tokens are. -/
def lenN : List (List UInt8) → Option Int
  | [] => none
  | x :: r => if (numB 10 15 x).2 = true ∧ r.all (fun y => (numB 10 15 y).2 && (numB 10 15 y).1 == (numB 10 15 x).1) = true then some (numB 10 15 x).1 else none
def lenS (cl : List ByteArray) : Int × Int :=
  match toksO cl with
  | none => (0, 400)
  | some L => match lenN L with
    | none => (0, 400)
    | some n => if 2048 < n then (0, 413) else (n, 0)
/-- Kind, length, status. -/
def bodyS (m : Int) (S : List FV) : Int × Int × Int :=
  if valsF S nTE ≠ [] then (2, 0, codS m (valsF S nCL) (valsF S nTE))
  else if valsF S nCL ≠ [] then (1, (lenS (valsF S nCL)).1, (lenS (valsF S nCL)).2)
  else (0, 0, 0)
def closeS (m : Int) (con : List ByteArray) : Bool := hasL closeL con || (decide (m = 0) && !hasL keepL con)
/-- What Of answers, the minor version being 0 or 1. -/
def frmN (m : Int) (S : List FV) : HowP × Int :=
  if hostOk m (valsF S nHost) = false then (noH, 400)
  else if (bodyS m S).2.2 ≠ 0 then (noH, (bodyS m S).2.2)
  else if toksO (valsF S nCon) = none then (noH, 400)
  else if m = 1 ∧ valsF S nExp ≠ [] then
    (if sameL (getF S nExp) contB = true then (⟨(bodyS m S).1, (bodyS m S).2.1, closeS m (valsF S nCon), decide ((bodyS m S).1 = 2 ∨ 0 < (bodyS m S).2.1)⟩, 0) else (noH, 417))
  else (⟨(bodyS m S).1, (bodyS m S).2.1, closeS m (valsF S nCon), false⟩, 0)
def frm (m : Int) (S : List FV) : HowP × Int := frmN (minN m) S
theorem minN_01 (m : Int) : minN m = 0 ∨ minN m = 1 := by unfold minN; split <;> simp
theorem minN_max (m : Int) : minN m = max 0 (min 1 m) := by unfold minN; split <;> omega
theorem frm_host {m : Int} {S : List FV} (h : hostOk m (valsF S nHost) = false) : frmN m S = (noH, 400) := by unfold frmN; rw [if_pos h]
theorem frm_body {m : Int} {S : List FV} (h : hostOk m (valsF S nHost) = true) (h2 : (bodyS m S).2.2 ≠ 0) : frmN m S = (noH, (bodyS m S).2.2) := by unfold frmN; rw [if_neg (by rw [h]; simp), if_pos h2]
theorem frm_con {m : Int} {S : List FV} (h : hostOk m (valsF S nHost) = true) (h2 : (bodyS m S).2.2 = 0) (h3 : toksO (valsF S nCon) = none) : frmN m S = (noH, 400) := by
  unfold frmN; rw [if_neg (by rw [h]; simp), if_neg (by rw [h2]; simp), if_pos h3]
theorem frm_plain {m : Int} {S : List FV} (h : hostOk m (valsF S nHost) = true) (h2 : (bodyS m S).2.2 = 0) (h3 : toksO (valsF S nCon) ≠ none) (h4 : ¬ (m = 1 ∧ valsF S nExp ≠ [])) :
    frmN m S = (⟨(bodyS m S).1, (bodyS m S).2.1, closeS m (valsF S nCon), false⟩, 0) := by
  unfold frmN; rw [if_neg (by rw [h]; simp), if_neg (by rw [h2]; simp), if_neg h3, if_neg h4]
theorem frm_417 {m : Int} {S : List FV} (h : hostOk m (valsF S nHost) = true) (h2 : (bodyS m S).2.2 = 0) (h3 : toksO (valsF S nCon) ≠ none) (h4 : m = 1 ∧ valsF S nExp ≠ []) (h5 : sameL (getF S nExp) contB = false) : frmN m S = (noH, 417) := by
  unfold frmN; rw [if_neg (by rw [h]; simp), if_neg (by rw [h2]; simp), if_neg h3, if_pos h4, if_neg (by rw [h5]; simp)]
theorem frm_exp {m : Int} {S : List FV} (h : hostOk m (valsF S nHost) = true) (h2 : (bodyS m S).2.2 = 0) (h3 : toksO (valsF S nCon) ≠ none) (h4 : m = 1 ∧ valsF S nExp ≠ []) (h5 : sameL (getF S nExp) contB = true) :
    frmN m S = (⟨(bodyS m S).1, (bodyS m S).2.1, closeS m (valsF S nCon), decide ((bodyS m S).1 = 2 ∨ 0 < (bodyS m S).2.1)⟩, 0) := by
  unfold frmN; rw [if_neg (by rw [h]; simp), if_neg (by rw [h2]; simp), if_neg h3, if_pos h4, if_pos h5]

/-! Fields of one name. -/
def oneN (n : ByteArray) (vs : List ByteArray) : List FV := vs.map fun v => (n, v)
theorem vals_one (n x : ByteArray) (vs : List ByteArray) : valsF (oneN n vs) x = if sameL n x = true then vs else [] := by
  unfold valsF namedF oneN
  by_cases h : sameL n x = true
  · rw [if_pos h]
    induction vs with
    | nil => rfl
    | cons v r ih => simp only [List.map_cons, List.filter_cons, h, if_true]; rw [ih]
  · rw [if_neg h]
    induction vs with
    | nil => rfl
    | cons v r ih => simp only [List.map_cons, List.filter_cons, h]; exact ih
theorem vals_app (S T : List FV) (x : ByteArray) : valsF (S ++ T) x = valsF S x ++ valsF T x := by
  unfold valsF namedF; rw [List.filter_append, List.map_append]
end Go.Proofs.YtgkhelbpccehcaaGreatDoor

/- Hosts and words of Connection, as chapter 12's laws make them. No program. -/
namespace Go.Proofs.YtgkhelbpccehcaaGreatDoor
open Go.RowKit
set_option linter.unusedVariables false

/-! Hosts. -/
def kHOST : ByteArray := ⟨#[104, 79, 83, 84]⟩
def allH (k : Nat) : ByteArray := if k = 0 then ⟨#[97]⟩ else if k = 1 then ⟨#[65, 46, 98, 58, 56, 48]⟩ else if k = 2 then ⟨#[]⟩ else if k = 3 then ⟨#[97, 32, 98]⟩ else if k = 4 then ⟨#[97, 58]⟩ else ⟨#[97, 47]⟩
theorem host_one : ∀ k : Fin 6, (decide ((allH k.1).data.toList = []) || hostL (allH k.1).data.toList) = decide (k.1 < 3) := by decide +kernel
theorem h_same : sameL kHOST nHost = true ∧ sameL kHOST nTE = false ∧ sameL kHOST nCL = false ∧ sameL kHOST nCon = false ∧ sameL kHOST nExp = false := by decide +kernel
theorem toks_nil : toksO [] = some [] := by decide +kernel
theorem close_nil (m : Int) : closeS m [] = decide (m = 0) := by unfold closeS hasL; rw [toks_nil]; simp
theorem hosts_law (m : Int) (ks : List Nat) (hk : ∀ k ∈ ks, k < 6) :
    frmN m (oneN kHOST (ks.map allH)) = if 1 < ks.length ∨ ks.any (fun k => decide (3 ≤ k)) = true ∨ (ks = [] ∧ m = 1) then (noH, 400) else (⟨0, 0, decide (m = 0), false⟩, 0) := by
  obtain ⟨s1, s2, s3, s4, s5⟩ := h_same
  have v1 := vals_one kHOST nHost (ks.map allH)
  have v2 := vals_one kHOST nTE (ks.map allH)
  have v3 := vals_one kHOST nCL (ks.map allH)
  have v4 := vals_one kHOST nCon (ks.map allH)
  have v5 := vals_one kHOST nExp (ks.map allH)
  rw [s1, if_pos rfl] at v1
  rw [s2, if_neg (by simp)] at v2
  rw [s3, if_neg (by simp)] at v3
  rw [s4, if_neg (by simp)] at v4
  rw [s5, if_neg (by simp)] at v5
  have hb : bodyS m (oneN kHOST (ks.map allH)) = (0, 0, 0) := by unfold bodyS; rw [v2, v3]; simp
  have good : hostOk m (ks.map allH) = true → frmN m (oneN kHOST (ks.map allH)) = (⟨0, 0, decide (m = 0), false⟩, 0) := fun h => by
    rw [frm_plain (by rw [v1]; exact h) (by rw [hb]) (by rw [v4, toks_nil]; simp) (by rw [v5]; simp), hb, v4, close_nil]
  have bad : hostOk m (ks.map allH) = false → frmN m (oneN kHOST (ks.map allH)) = (noH, 400) := fun h => frm_host (by rw [v1]; exact h)
  match ks, hk with
  | [], _ =>
    by_cases hm : m = 1
    · rw [if_pos (.inr (.inr ⟨rfl, hm⟩))]
      exact bad (by show decide (m ≠ 1) = false; simp [hm])
    · have hno : ¬ (1 < ([] : List Nat).length ∨ ([] : List Nat).any (fun k => decide (3 ≤ k)) = true ∨ (([] : List Nat) = [] ∧ m = 1)) := by
        rintro (h | h | h)
        · simp at h
        · simp at h
        · exact hm h.2
      rw [if_neg hno]
      exact good (by show decide (m ≠ 1) = true; simp [hm])
  | [k], hk =>
    have hk6 := hk k (by simp)
    have h1 := host_one ⟨k, hk6⟩
    by_cases h3 : 3 ≤ k
    · rw [if_pos (.inr (.inl (by simp [h3])))]
      exact bad (h1.trans (by simp; omega))
    · have hno : ¬ (1 < [k].length ∨ [k].any (fun k => decide (3 ≤ k)) = true ∨ ([k] = [] ∧ m = 1)) := by
        rintro (h | h | h)
        · simp at h
        · simp at h; omega
        · simp at h
      rw [if_neg hno]
      exact good (h1.trans (by simp; omega))
  | k :: j :: r, _ =>
    rw [if_pos (.inl (by simp))]
    exact bad rfl

/-! Words of Connection. -/
def allW (k : Nat) : ByteArray := if k = 0 then ⟨#[99, 108, 111, 115, 101]⟩ else if k = 1 then ⟨#[67, 76, 79, 83, 69]⟩ else if k = 2 then ⟨#[107, 101, 101, 112, 45, 97, 108, 105, 118, 101]⟩ else if k = 3 then ⟨#[75, 101, 101, 112, 45, 65, 108, 105, 118, 101]⟩ else if k = 4 then ⟨#[120]⟩ else ⟨#[]⟩
def tokW (k : Nat) : List (List UInt8) := if k < 2 then [closeL] else if k < 4 then [keepL] else if k = 4 then [[120]] else []
theorem word_one : ∀ k : Fin 6, tokO (splitC (allW k.1).data.toList) = some (tokW k.1) := by decide +kernel
theorem word_close : ∀ k : Fin 6, (tokW k.1).any (fun x => x == lowL closeL) = decide (k.1 < 2) := by decide +kernel
theorem word_keep : ∀ k : Fin 6, (tokW k.1).any (fun x => x == lowL keepL) = decide (k.1 = 2 ∨ k.1 = 3) := by decide +kernel
theorem words_toks : ∀ ks : List Nat, (∀ k ∈ ks, k < 6) → toksO (ks.map allW) = some (ks.flatMap tokW)
  | [], _ => toks_nil
  | k :: r, h => by
    have ih := words_toks r (fun x hx => h x (by simp [hx]))
    have h1 := word_one ⟨k, h k (by simp)⟩
    unfold toksO partsO at ih ⊢
    rw [List.map_cons, List.flatMap_cons, tokO_append, h1, ih]
    simp
theorem any_flat (p : List UInt8 → Bool) (q : Nat → Bool) : ∀ ks : List Nat, (∀ k ∈ ks, (tokW k).any p = q k) → (ks.flatMap tokW).any p = ks.any q
  | [], _ => rfl
  | k :: r, h => by
    rw [List.flatMap_cons, List.any_append, List.any_cons, h k (by simp), any_flat p q r (fun x hx => h x (by simp [hx]))]
theorem close_words (m : Int) (ks : List Nat) (hk : ∀ k ∈ ks, k < 6) :
    closeS m (ks.map allW) = (ks.any (fun k => decide (k < 2)) || (decide (m = 0) && !ks.any (fun k => decide (k = 2 ∨ k = 3)))) := by
  unfold closeS hasL
  rw [words_toks ks hk]
  simp only
  rw [any_flat _ (fun k => decide (k < 2)) ks (fun k h => word_close ⟨k, hk k h⟩), any_flat _ (fun k => decide (k = 2 ∨ k = 3)) ks (fun k h => word_keep ⟨k, hk k h⟩)]
def hostA : FV := (nHost, ⟨#[97]⟩)
theorem n_same : sameL nHost nHost = true ∧ sameL nHost nTE = false ∧ sameL nHost nCL = false ∧ sameL nHost nCon = false ∧ sameL nHost nExp = false := by decide +kernel
theorem c_same : sameL nCon nHost = false ∧ sameL nCon nTE = false ∧ sameL nCon nCL = false ∧ sameL nCon nCon = true ∧ sameL nCon nExp = false := by decide +kernel
theorem closes_law (m : Int) (ks : List Nat) (hk : ∀ k ∈ ks, k < 6) :
    frmN m (oneN nHost [⟨#[97]⟩] ++ oneN nCon (ks.map allW)) = (⟨0, 0, ks.any (fun k => decide (k < 2)) || (decide (m = 0) && !ks.any (fun k => decide (k = 2 ∨ k = 3))), false⟩, 0) := by
  obtain ⟨s1, s2, s3, s4, s5⟩ := n_same
  obtain ⟨t1, t2, t3, t4, t5⟩ := c_same
  have v1 : valsF (oneN nHost [⟨#[97]⟩] ++ oneN nCon (ks.map allW)) nHost = [⟨#[97]⟩] := by rw [vals_app, vals_one, vals_one, s1, t1]; simp
  have v2 : valsF (oneN nHost [⟨#[97]⟩] ++ oneN nCon (ks.map allW)) nTE = [] := by rw [vals_app, vals_one, vals_one, s2, t2]; simp
  have v3 : valsF (oneN nHost [⟨#[97]⟩] ++ oneN nCon (ks.map allW)) nCL = [] := by rw [vals_app, vals_one, vals_one, s3, t3]; simp
  have v4 : valsF (oneN nHost [⟨#[97]⟩] ++ oneN nCon (ks.map allW)) nCon = ks.map allW := by rw [vals_app, vals_one, vals_one, s4, t4]; simp
  have v5 : valsF (oneN nHost [⟨#[97]⟩] ++ oneN nCon (ks.map allW)) nExp = [] := by rw [vals_app, vals_one, vals_one, s5, t5]; simp
  have hb : bodyS m (oneN nHost [⟨#[97]⟩] ++ oneN nCon (ks.map allW)) = (0, 0, 0) := by unfold bodyS; rw [v2, v3]; simp
  rw [frm_plain (by rw [v1]; exact host_one ⟨0, by decide⟩) (by rw [hb]) (by rw [v4, words_toks ks hk]; simp) (by rw [v5]; simp), hb, v4, close_words m ks hk]
end Go.Proofs.YtgkhelbpccehcaaGreatDoor

/- Lengths, as chapter 12's laws make them. No program. -/
namespace Go.Proofs.YtgkhelbpccehcaaGreatDoor
open Go.RowKit
set_option linter.unusedVariables false

def isD (c : UInt8) : Bool := decide (48 ≤ c.toNat) && decide (c.toNat ≤ 57)
theorem dgt_d (d : Nat) (h : d < 10) : isD (dgt d) = true := by
  have := List.all_eq_true.1 (show (List.range 10).all (fun d => isD (dgt d)) = true by decide +kernel) d (by rw [List.mem_range]; exact h)
  exact this
theorem digs_d (u : Nat) : (digs 10 u).all isD = true := by
  induction u using Nat.strongRecOn with
  | ind u ih =>
    by_cases h : u < 10
    · rw [digs_low h]; simp [dgt_d u h]
    · rw [digs_high (by omega) (by decide), List.all_append, ih (u / 10) (by omega)]; simp [dgt_d (u % 10) (by omega)]
theorem d_tok (c : UInt8) (h : isD c = true) : tokB c = true := by
  have := by_byte (fun c => !isD c || tokB c) (by decide +kernel) c
  rw [h] at this; simpa using this
theorem d_low (c : UInt8) (h : isD c = true) : lowB c = c := by
  have := by_byte (fun c => !isD c || lowB c == c) (by decide +kernel) c
  rw [h] at this; simpa using this
theorem d_44 (c : UInt8) (h : isD c = true) : c ≠ 44 := by rintro rfl; revert h; decide
theorem d_lowL {l : List UInt8} (h : l.all isD = true) : lowL l = l := by
  unfold lowL
  have := List.all_eq_true.1 h
  induction l with
  | nil => rfl
  | cons c r ih => rw [List.map_cons, d_low c (this c (by simp)), ih (by rw [List.all_cons, Bool.and_eq_true] at h; exact h.2) (fun x hx => this x (by simp [hx]))]
theorem d_tokL {l : List UInt8} (h : l.all isD = true) (h0 : l ≠ []) : tokL l = true := by
  unfold tokL
  rw [show l.all tokB = true from List.all_eq_true.2 fun x hx => d_tok x (List.all_eq_true.1 h x hx)]
  cases l with
  | nil => exact absurd rfl h0
  | cons c r => rfl
theorem d_split {l : List UInt8} (h : l.all isD = true) : splitC l = [l] := by
  show splitAcc [] l = _
  rw [splitAcc_no l [] (fun x hx => d_44 x (List.all_eq_true.1 h x hx))]; rfl
theorem d_blk (c : UInt8) (h : isD c = true) : blk c = false := by
  have := by_byte (fun c => !isD c || !blk c) (by decide +kernel) c
  rw [h] at this; simpa using this
theorem d_trim {l : List UInt8} (h : l.all isD = true) (h0 : l ≠ []) : trimL l = l := by
  rw [trimL_eq]
  have h1 : tlL l = l := by
    cases l with
    | nil => rfl
    | cons c r => exact tl_cons_no (d_blk c (List.all_eq_true.1 h c (by simp)))
  rw [h1]
  have e := List.dropLast_concat_getLast h0
  rw [← e]
  exact trL_snoc_no _ _ (d_blk _ (List.all_eq_true.1 h _ (List.getLast_mem h0)))
def decB (n : Nat) : ByteArray := ofL (digs 10 n)
theorem dec_tok (n : Nat) : tokO (splitC (decB n).data.toList) = some [digs 10 n] := by
  have h := digs_d n
  have h0 := digs_pos 10 n
  unfold decB
  rw [ofL_list, d_split h, tokO_one]
  unfold tokP
  rw [d_trim h h0, if_neg h0, if_pos (d_tokL h h0), d_lowL h]
theorem dec_toks : ∀ ns : List Nat, toksO (ns.map decB) = some (ns.map fun n => digs 10 n)
  | [] => toks_nil
  | n :: r => by
    have ih := dec_toks r
    unfold toksO partsO at ih ⊢
    rw [List.map_cons, List.flatMap_cons, tokO_append, dec_tok, ih]
    rfl
theorem dec_num (n : Nat) (h : n ≤ 4095) : numB 10 15 (digs 10 n) = ((n : Int), true) := numB_digs 10 (by decide) (by decide) 14 n (Nat.lt_of_le_of_lt h (by decide))
theorem dec_lenN (n : Nat) (r : List Nat) (hn : ∀ x ∈ n :: r, x ≤ 4095) : lenN ((n :: r).map fun n => digs 10 n) = if r.all (fun x => decide (x = n)) = true then some (n : Int) else none := by
  have h0 := dec_num n (hn n (by simp))
  have ha : (r.map fun n => digs 10 n).all (fun y => (numB 10 15 y).2 && (numB 10 15 y).1 == (numB 10 15 (digs 10 n)).1) = r.all (fun x => decide (x = n)) := by
    rw [List.all_map, h0]
    have hr : ∀ x ∈ r, x ≤ 4095 := fun x hx => hn x (by simp [hx])
    clear hn h0
    induction r with
    | nil => rfl
    | cons x r ih =>
      rw [List.all_cons, List.all_cons, ih (fun y hy => hr y (by simp [hy]))]
      congr 1
      show ((numB 10 15 (digs 10 x)).2 && (numB 10 15 (digs 10 x)).1 == (n : Int)) = _
      rw [dec_num x (hr x (by simp))]
      simp only [Bool.true_and]
      rw [Bool.eq_iff_iff, beq_iff_eq, decide_eq_true_iff]
      omega
  rw [List.map_cons]
  simp only [lenN]
  rw [ha, h0]
  simp
theorem lenS_none {cl : List ByteArray} {L : List (List UInt8)} (h : toksO cl = some L) (h2 : lenN L = none) : lenS cl = (0, 400) := by unfold lenS; rw [h]; simp only; rw [h2]
theorem lenS_some {cl : List ByteArray} {L : List (List UInt8)} {n : Int} (h : toksO cl = some L) (h2 : lenN L = some n) : lenS cl = if 2048 < n then (0, 413) else (n, 0) := by unfold lenS; rw [h]; simp only; rw [h2]
def chunkedB : ByteArray := ⟨#[99, 104, 117, 110, 107, 101, 100]⟩
theorem te_toks : toksO [chunkedB] = some [chunkedL] := by decide +kernel
theorem l_same : sameL nCL nHost = false ∧ sameL nCL nTE = false ∧ sameL nCL nCL = true ∧ sameL nCL nCon = false ∧ sameL nCL nExp = false := by decide +kernel
theorem e_same : sameL nTE nHost = false ∧ sameL nTE nTE = true ∧ sameL nTE nCL = false ∧ sameL nTE nCon = false ∧ sameL nTE nExp = false := by decide +kernel
/-- The fields of the law on lengths. -/
def lenF (ns : List Nat) (te : List ByteArray) : List FV := oneN nHost [⟨#[97]⟩] ++ oneN nCL (ns.map decB) ++ oneN nTE te
theorem len_vals (ns : List Nat) (te : List ByteArray) : valsF (lenF ns te) nHost = [⟨#[97]⟩] ∧ valsF (lenF ns te) nTE = te ∧ valsF (lenF ns te) nCL = ns.map decB ∧ valsF (lenF ns te) nCon = [] ∧ valsF (lenF ns te) nExp = [] := by
  obtain ⟨s1, s2, s3, s4, s5⟩ := n_same
  obtain ⟨t1, t2, t3, t4, t5⟩ := l_same
  obtain ⟨u1, u2, u3, u4, u5⟩ := e_same
  unfold lenF
  refine ⟨?_, ?_, ?_, ?_, ?_⟩
  · rw [vals_app, vals_app, vals_one, vals_one, vals_one, s1, t1, u1]; simp
  · rw [vals_app, vals_app, vals_one, vals_one, vals_one, s2, t2, u2]; simp
  · rw [vals_app, vals_app, vals_one, vals_one, vals_one, s3, t3, u3]; simp
  · rw [vals_app, vals_app, vals_one, vals_one, vals_one, s4, t4, u4]; simp
  · rw [vals_app, vals_app, vals_one, vals_one, vals_one, s5, t5, u5]; simp
theorem host_a1 (m : Int) : hostOk m [⟨#[97]⟩] = true := host_one ⟨0, by decide⟩
/-- What the document asks of lengths: the status, the kind, the length. -/
def lenR (m : Int) (ns : List Nat) (coded : Bool) : HowP × Int :=
  if coded = true then (if ns ≠ [] ∨ m = 0 then (noH, 400) else (⟨2, 0, decide (m = 0), false⟩, 0))
  else match ns with
    | [] => (⟨0, 0, decide (m = 0), false⟩, 0)
    | n :: r => if r.all (fun x => decide (x = n)) = true then (if 2048 < (n : Int) then (noH, 413) else (⟨1, n, decide (m = 0), false⟩, 0)) else (noH, 400)
theorem lengths_law (m : Int) (ns : List Nat) (coded : Bool) (hn : ∀ n ∈ ns, n ≤ 4095) : frmN m (lenF ns (if coded = true then [chunkedB] else [])) = lenR m ns coded := by
  obtain ⟨v1, v2, v3, v4, v5⟩ := len_vals ns (if coded = true then [chunkedB] else [])
  have hh : hostOk m (valsF (lenF ns (if coded = true then [chunkedB] else [])) nHost) = true := by rw [v1]; exact host_a1 m
  have ht : toksO (valsF (lenF ns (if coded = true then [chunkedB] else [])) nCon) ≠ none := by rw [v4, toks_nil]; simp
  have hx : ¬ (m = 1 ∧ valsF (lenF ns (if coded = true then [chunkedB] else [])) nExp ≠ []) := by rw [v5]; simp
  have fin : ∀ k l, bodyS m (lenF ns (if coded = true then [chunkedB] else [])) = (k, l, 0) → frmN m (lenF ns (if coded = true then [chunkedB] else [])) = (⟨k, l, decide (m = 0), false⟩, 0) := fun k l h => by
    rw [frm_plain hh (by rw [h]) ht hx, h, v4, close_nil]
  have bad : ∀ k l s, s ≠ 0 → bodyS m (lenF ns (if coded = true then [chunkedB] else [])) = (k, l, s) → frmN m (lenF ns (if coded = true then [chunkedB] else [])) = (noH, s) := fun k l s hs h => by
    rw [frm_body hh (by rw [h]; exact hs), h]
  unfold lenR
  cases coded with
  | true =>
    rw [if_pos rfl]
    have hb : bodyS m (lenF ns (if true = true then [chunkedB] else [])) = (2, 0, codS m (ns.map decB) [chunkedB]) := by
      unfold bodyS; rw [v2, v3]; simp
    by_cases hc : ns ≠ [] ∨ m = 0
    · rw [if_pos hc]
      refine bad 2 0 400 (by decide) ?_
      rw [hb]; unfold codS
      rw [if_pos (by rcases hc with h | h; exact .inr (by simpa using h); exact .inl h)]
    · rw [if_neg hc]
      have h1 : ns = [] := Classical.byContradiction fun h => hc (.inl h)
      have h2 : ¬ m = 0 := fun h => hc (.inr h)
      refine fin 2 0 ?_
      rw [hb]; unfold codS
      rw [if_neg (by rw [h1]; simp [h2]), te_toks]
      rfl
  | false =>
    rw [if_neg (by simp)]
    cases ns with
    | nil => exact fin 0 0 (by unfold bodyS; rw [v2, v3]; simp)
    | cons n r =>
      have hb : bodyS m (lenF (n :: r) (if false = true then [chunkedB] else [])) = (1, (lenS ((n :: r).map decB)).1, (lenS ((n :: r).map decB)).2) := by
        unfold bodyS; rw [v2, v3]; simp
      have hq := dec_lenN n r hn
      by_cases hs : r.all (fun x => decide (x = n)) = true
      · rw [if_pos hs] at hq
        have hl := lenS_some (dec_toks (n :: r)) hq
        simp only [hs, if_true]
        by_cases hm : 2048 < (n : Int)
        · rw [if_pos hm] at hl
          rw [if_pos hm]
          exact bad 1 0 413 (by decide) (by rw [hb, hl])
        · rw [if_neg hm] at hl
          rw [if_neg hm]
          exact fin 1 n (by rw [hb, hl])
      · rw [if_neg hs] at hq
        have hl := lenS_none (dec_toks (n :: r)) hq
        simp only [hs]
        exact bad 1 0 400 (by decide) (by rw [hb, hl])
end Go.Proofs.YtgkhelbpccehcaaGreatDoor

/- The document's digits of base 10 are a number's digits, below 0 those of 0. Conditions: none. -/
namespace Go.Proofs.YtgkhelbpccehcaaGreatDoor
open Go.RowKit
set_option linter.unusedVariables false

theorem back_byte (c : UInt8) (w : World) : (convert 22 9 (.slice (some ⟨w.heap.size, 0, none⟩) 1 1)).run Tryz.prog (w.alloc (.cells #[.int .u8 (c.toNat : Int)] 5)) = .ok (.string ⟨#[c]⟩) (w.alloc (.cells #[.int .u8 (c.toNat : Int)] 5)) :=
  run_convert_bytes_back (P := Tryz.prog) (w.alloc (.cells #[.int .u8 (c.toNat : Int)] 5)) 22 9 5 ⟨w.heap.size, 0, none⟩ 1 [c] Tryz.underlying22 Tryz.underlying5 Tryz.underlying9 (fun j hj => by
    have hj0 : j = 0 := by simpa using hj
    subst hj0
    simp [Addr.add])

def hxA : ByteArray := ⟨#[48, 49, 50, 51, 52, 53, 54, 55, 56, 57, 97, 98, 99, 100, 101, 102]⟩
theorem hxA_at (d : Nat) (h : d < 16) : hxA[d]'(by show d < 16; omega) = dgt d := by
  have h2 := List.all_eq_true.1 (show (List.range 16).all (fun d => hxA.data.toList.getD d 0 == dgt d) = true by decide +kernel) d (by rw [List.mem_range]; exact h)
  rw [beq_iff_eq] at h2
  rw [← h2, List.getD_eq_getElem?_getD, List.getElem?_eq_getElem (by show d < 16; omega)]; rfl
theorem hx_list (d : Nat) (h : d < 16) (t : ByteArray) : ((⟨#[hxA[d]'(by show d < 16; omega)]⟩ : ByteArray) ++ t).data.toList = dgt d :: t.data.toList := by
  rw [hxA_at d h]; simp [ByteArray.data_append]

set_option maxRecDepth 100000 in
theorem text_r10 (n : Int) (hn : n ≤ 9223372036854775807) (w : World) :
    Calls Tryz.prog 31 #[.int .i64 n, .int .i64 10] w fun e w' => e = .returned (.string (decB n.toNat)) ∧ Below w.heap.size w w' := by
  have hm : n.toNat < 9223372036854775808 := by omega
  have HM := Lib.hid hm
  have hback := back_byte
  clear hm
  go_enter Tryz.func31, Tryz.ntmps31
  go_wp2
  go_loopw [0, 5] (fun x y wr => ∃ (v : Nat) (t : ByteArray), x = .int .i64 v ∧ y = .string t ∧ v < 9223372036854775808 ∧ digs 10 n.toNat = digs 10 v ++ t.data.toList ∧ Below w.heap.size w wr) (fun x _ _ => (intOf x).toNat)
  case atStart => exact ⟨n.toNat, ⟨#[]⟩, by rw [show (max 0 n : Int) = ((n.toNat : Nat) : Int) by omega], rfl, HM.out, by simp, Below.refl _ _⟩
  case round =>
    obtain ⟨v, t, rfl, rfl, hv, hd, hbel⟩ := hrel
    have hlen := congrArg List.length hd
    rw [List.length_append] at hlen
    have hle := digs_le 10 (by decide) 62 n.toNat (Nat.lt_trans HM.out (by decide))
    have ht : t.size ≤ 100 := by
      have : t.data.toList.length = t.size := rfl
      omega
    have HD := Lib.hid hd
    have HB := Lib.hid hbel
    have hvb : (v : Int) ≤ 9223372036854775807 := by omega
    clear hd hlen hle hbel hv
    have hmod : v % 10 < 10 := Nat.mod_lt _ (by decide)
    by_cases h0 : v < 10
    · have hz : v / 10 = 0 := by omega
      have hq : (((v : Int) / 10) == 0) = true := by simp; omega
      have HZ := Lib.hid hz
      clear hz
      have hlow : v % 10 = v := by omega
      have HL := Lib.hid hlow
      clear hlow
      go_wp2
      go_ret
      refine ⟨ret_str (Go.WideShapes.bytes_inj ?_), HB.out.alloc HB.out.size _⟩
      refine (hx_list (v % 10) (by omega) t).trans ?_
      show _ = digs 10 n.toNat
      rw [HD.out, digs_low h0, HL.out]; rfl
    · have hq : (((v : Int) / 10) == 0) = false := by simp; omega
      go_wp2
      go_roundw
      case rel =>
        refine ⟨v / 10, _, by go_num, rfl, by omega, ?_, HB.out.alloc HB.out.size _⟩
        rw [HD.out, digs_high (by omega) (by decide), List.append_assoc]
        congr 1
        exact (hx_list (v % 10) (by omega) t).symm
      case measure => simp [intOf]; omega
theorem dec_r (n : Int) (hn : n ≤ 9223372036854775807) (w : World) : Calls Tryz.prog 22 #[.int .i64 n] w fun e w' => e = .returned (.string (decB n.toNat)) ∧ Below w.heap.size w w' := by
  have HT := Lib.hid (text_r10 n hn w)
  go_enter Tryz.func22, Tryz.ntmps22
  go_wp2_with (go_at_call 31; refine HT.out.mono ?_; rintro e w1 ⟨rfl, hb⟩; have HB := Lib.hid hb; clear hb)
  go_ret
  exact ⟨rfl, HB.out⟩
end Go.Proofs.YtgkhelbpccehcaaGreatDoor

/- A number in digits is a field's value. No program. -/
namespace Go.Proofs.YtgkhelbpccehcaaGreatDoor
open Go.RowKit
set_option linter.unusedVariables false

theorem d_val (c : UInt8) (h : isD c = true) : valB c = true := by
  have := by_byte (fun c => !isD c || valB c) (by decide +kernel) c
  rw [h] at this; simpa using this
theorem dec_ok (n : Nat) : okF (nCL, decB n) = true := by
  have h := digs_d n
  have h0 := digs_pos 10 n
  refine okF_yes (show tokL nCL.data.toList = true by decide +kernel) ?_ ?_
  · unfold valL decB
    rw [ofL_list]
    exact List.all_eq_true.2 fun x hx => d_val x (List.all_eq_true.1 h x hx)
  · unfold trimA decB
    rw [ofL_list, d_trim h h0]; rfl
theorem dec_size {n : Nat} (h : n ≤ 4095) : (decB n).size ≤ 10 := by
  have := digs_le 10 (by decide) 3 n (by omega)
  have e : (decB n).size = (digs 10 n).length := by unfold decB; exact congrArg List.length (ofL_list _)
  omega
end Go.Proofs.YtgkhelbpccehcaaGreatDoor

/- The code's fields, or none, and the code's tokens, as chapter 12 asks them. Conditions: names of at most a million bytes, values of at most 900000 bytes in all. -/
namespace Go.Proofs.YtgkhelbpccehcaaGreatDoor
open Go.RowKit
set_option linter.unusedVariables false
set_option linter.unusedSimpArgs false

/-- Fields in memory, or none; their blocks lie below B. -/
def FP (t : TypeId) (B : Nat) (w : World) (fp : Value) (S : List FV) : Prop :=
  (fp = .pointer none ∧ S = []) ∨ ∃ g v, fp = ptr g ∧ Fld t w g v S ∧ g < B ∧ ∀ k ∈ v.ownBlock.toList, k < B
section
variable {t : TypeId} {B : Nat} {w w' : World} {fp : Value} {S : List FV} {F : List Nat}
theorem FP.mods (h : FP t B w fp S) (hm : Mods F w w') (hF : ∀ k ∈ F, B ≤ k) : FP t B w' fp S := by
  rcases h with h | ⟨g, v, e, hf, hg, hv⟩
  · exact .inl h
  · exact .inr ⟨g, v, e, hf.mods hm (fun h => by have := hF _ h; omega) (fun k hk h => by have := hF _ h; have := hv k hk; omega), hg, hv⟩
theorem FP.low (h : FP t B w fp S) (hm : Mods [] w w') : FP t B w' fp S := h.mods hm (by simp)
theorem FP.of_fld {g : Nat} {v : Value} (h : Fld t w g v S) : FP t w.heap.size w (ptr g) S := .inr ⟨g, v, rfl, h, h.row.lt, h.lt⟩
theorem FP.more {B' : Nat} (h : FP t B w fp S) (hB : B ≤ B') : FP t B' w fp S := by
  rcases h with h | ⟨g, v, e, hf, hg, hv⟩
  · exact .inl h
  · exact .inr ⟨g, v, e, hf, by omega, fun k hk => by have := hv k hk; omega⟩
theorem FP.form (h : FP t B w fp S) : ∃ A, fp = .pointer A := by
  rcases h with ⟨h, _⟩ | ⟨g, v, h, _⟩
  · exact ⟨_, h⟩
  · exact ⟨_, h⟩
end
/-- The values' bytes in all. -/
def Lite (S : List FV) : Prop := sizes (S.map (·.2)) ≤ 900000
theorem sizes_sub {l m : List ByteArray} (h : l.Sublist m) : sizes l ≤ sizes m := by
  induction h with
  | slnil => exact Nat.le_refl _
  | cons a _ ih => simp only [sizes]; omega
  | cons_cons a _ ih => simp only [sizes]; omega
theorem Lite.vals {S : List FV} (h : Lite S) (n : ByteArray) : sizes (valsF S n) ≤ 900000 := by
  refine Nat.le_trans (sizes_sub ?_) h
  unfold valsF namedF
  exact List.Sublist.map _ List.filter_sublist
theorem has_vals (S : List FV) (n : ByteArray) : hasF S n = decide (valsF S n ≠ []) := by
  rw [hasF_vals, decide_eq_decide]; exact List.length_pos_iff

theorem StrsAt.of_ss {W : World} {v : Value} {ts : List ByteArray} (h : SsAt W v ts) : StrsAt W v ts := by
  rcases h with h | ⟨b, off, cap, hv, h0, _, hb, hc⟩
  · exact .inl h
  · exact .inr ⟨b, off, cap, hv, h0, hb, hc⟩
theorem strs_nil {W : World} {v : Value} (h : StrsAt W v []) : ∃ a cap, v = .slice a 0 cap := h.len
theorem strs_one {W : World} {v : Value} {x : ByteArray} (h : StrsAt W v [x]) : ∃ (b off cap : Nat), v = .slice (some ⟨b, off, none⟩) 1 cap ∧ W.cell? ⟨b, off, none⟩ = some (.string x) := by
  rcases h with ⟨h, _⟩ | ⟨b, off, cap, hv, h0, hb, hc⟩
  · cases h
  · exact ⟨b, off, cap, hv, hc 0 (by simp)⟩
theorem strs_two {W : World} {v : Value} {x y : ByteArray} {r : List ByteArray} (h : StrsAt W v (x :: y :: r)) : ∃ a n cap, v = .slice a n cap ∧ 2 ≤ n := by
  obtain ⟨a, cap, hv⟩ := h.len
  exact ⟨a, _, cap, hv, by simp⟩
theorem StrsAt.low {W W' : World} {v : Value} {ts : List ByteArray} (h : StrsAt W v ts) (hm : Mods [] W W') : StrsAt W' v ts := h.below hm.below

set_option maxRecDepth 10000 in
theorem vals_nil (n : ByteArray) (w : World) : Calls Tryz.prog 156 #[.pointer none, .string n] w fun e w' => e = .returned (.slice none 0 0) ∧ w = w' := by
  go_enter Tryz.func156, Tryz.ntmps156
  go_wp2_with (go_at_call 38; refine (kept_nil _).mono ?_; rintro e w' ⟨rfl, rfl⟩)
  refine wp_loop_rounds 1 ?_
  rw [rounds_succ]
  go_wp2
  go_ret
  exact ⟨rfl, rfl⟩
theorem vals_p {B : Nat} {fp : Value} {S : List FV} (n : ByteArray) (w : World) (h : FP 93 B w fp S) (hn : n.size ≤ 1000000) :
    Calls Tryz.prog 156 #[fp, .string n] w fun e w' => ∃ u, e = .returned u ∧ StrsAt w' u (valsF S n) ∧ Mods [] w w' := by
  rcases h with ⟨rfl, rfl⟩ | ⟨g, v, rfl, hf, _, _⟩
  · exact (vals_nil n w).mono fun e w' ⟨h1, h2⟩ => ⟨_, h1, .inl ⟨rfl, _, _, rfl⟩, h2 ▸ Mods.refl _ _⟩
  · exact (vals_a n w hf hn).mono fun e w' ⟨u, h1, hG⟩ => ⟨u, h1, .of_ss (SsAt.of_row hG.row), hG.low⟩
theorem has_p {B : Nat} {fp : Value} {S : List FV} (n : ByteArray) (w : World) (h : FP 93 B w fp S) (hn : n.size ≤ 1000000) :
    Calls Tryz.prog 158 #[fp, .string n] w fun e w' => e = .returned (.bool (decide (valsF S n ≠ []))) ∧ Mods [] w w' := by
  rw [← has_vals]
  rcases h with ⟨rfl, rfl⟩ | ⟨g, v, rfl, hf, _, _⟩
  · exact has_nil n w hn
  · exact fhas_a n w hf hn
theorem get_p {B : Nat} {fp : Value} {S : List FV} (n : ByteArray) (w : World) (h : FP 93 B w fp S) (hn : n.size ≤ 1000000) (h0 : valsF S n ≠ []) :
    Calls Tryz.prog 163 #[fp, .string n] w fun e w' => e = .returned (.string (getF S n)) ∧ Mods [] w w' := by
  rcases h with ⟨rfl, rfl⟩ | ⟨g, v, rfl, hf, _, _⟩
  · exact absurd rfl h0
  · exact get_a n w hf hn
theorem tok_y {ts : List ByteArray} {L : List (List UInt8)} (hL : toksO ts = some L) (v : Value) (w : World) (h : StrsAt w v ts) (hs : sizes ts ≤ 900000) :
    Calls Tryz.prog 161 #[v] w fun e w' => ∃ u, e = .returned (.tuple #[u, .bool true]) ∧ StrsAt w' u (L.map ba) ∧ Mods [] w w' := by
  refine (tokens_a ts v w h (by omega)).mono fun e w' ⟨hb, ha⟩ => ?_
  rw [hL] at ha
  obtain ⟨u, h1, h2⟩ := ha
  exact ⟨u, h1, row_strs h2, .of_below hb⟩
theorem tok_n {ts : List ByteArray} (hL : toksO ts = none) (v : Value) (w : World) (h : StrsAt w v ts) (hs : sizes ts ≤ 900000) :
    Calls Tryz.prog 161 #[v] w fun e w' => e = .returned (.tuple #[.slice none 0 0, .bool false]) ∧ Mods [] w w' := by
  refine (tokens_a ts v w h (by omega)).mono fun e w' ⟨hb, ha⟩ => ?_
  rw [hL] at ha
  exact ⟨ha, .of_below hb⟩
theorem index_tk (ts : List ByteArray) (v : Value) (x : ByteArray) (w : World) (h : StrsAt w v ts) (hs : ts.length ≤ 1000000) :
    Calls Tryz.prog 191 #[v, .string x] w fun e w' => e = .returned (.int .i64 (Lib.idxOfS ts x)) ∧ w' = w := by
  rcases h with ⟨rfl, a, cap, rfl⟩ | ⟨b, off, cap, rfl, h0, hb, hc⟩
  · exact Go.Proofs.Any.slices_Index_string_empty { l110 with } a cap x w
  · have := Go.Proofs.Any.slices_Index_string (ρ := l110_ren) { l110 with } b off ts.length cap ts x w (Nat.le_refl _) (by omega) (fun j hj => by rw [hc j hj, List.getD_eq_getElem?_getD, List.getElem?_eq_getElem hj]; rfl)
    rw [List.take_length] at this
    exact this

theorem least_of (p : Nat → Prop) (h : ∃ k, p k) : ∃ k, p k ∧ ∀ j, j < k → ¬ p j := by
  obtain ⟨k, hk⟩ := h
  induction k using Nat.strongRecOn with
  | ind k ih =>
    by_cases h : ∃ j, j < k ∧ p j
    · obtain ⟨j, hj, hp⟩ := h; exact ih j hj hp
    · exact ⟨k, hk, fun j hj hp => h ⟨j, hj, hp⟩⟩
/-! Where the last of some texts is the first that is x. -/
theorem idx_last {l : List ByteArray} {x : ByteArray} (h0 : l ≠ []) : Lib.idxOfS l x = (l.length : Int) - 1 ↔ l.getLast h0 = x ∧ x ∉ l.dropLast := by
  have hlen : 0 < l.length := List.length_pos_iff.2 h0
  have hD : ∀ j (hj : j < l.length), l.getD j ByteArray.empty = l[j] := fun j hj => by rw [List.getD_eq_getElem?_getD, List.getElem?_eq_getElem hj]; rfl
  have hl : l.getLast h0 = l[l.length - 1] := List.getLast_eq_getElem h0
  by_cases hx : ∃ k, ∃ h : k < l.length, l[k] = x
  · have hex := hx
    obtain ⟨k, ⟨hk, hkx⟩, hmin⟩ : ∃ k, (∃ h : k < l.length, l[k] = x) ∧ ∀ j, j < k → ¬ ∃ h : j < l.length, l[j] = x := by
      exact least_of _ hex
    have hi : Lib.idxOfS l x = k := by
      have := Lib.idxOfS_hit l l.length k x hk (Nat.le_refl _) (by rw [hD k hk, hkx]) (fun j hj e => hmin j hj ⟨by omega, by rw [← hD j (by omega)]; exact e⟩)
      rwa [List.take_length] at this
    rw [hi]
    constructor
    · intro h
      obtain rfl : k = l.length - 1 := by omega
      refine ⟨by rw [hl]; exact hkx, fun hm => ?_⟩
      obtain ⟨j, hj, he⟩ := List.mem_iff_getElem.1 hm
      rw [List.length_dropLast] at hj
      rw [List.getElem_dropLast] at he
      exact hmin j (by omega) ⟨by omega, he⟩
    · rintro ⟨h1, h2⟩
      by_cases hk2 : k = l.length - 1
      · omega
      · exfalso
        refine h2 (List.mem_iff_getElem.2 ⟨k, by rw [List.length_dropLast]; omega, ?_⟩)
        rw [List.getElem_dropLast]; exact hkx
  · have hi : Lib.idxOfS l x = -1 := by
      have := Lib.idxOfS_miss l l.length x (fun j hj e => hx ⟨j, hj, by rw [← hD j hj]; exact e⟩)
      rwa [List.take_length] at this
    rw [hi]
    constructor
    · intro h; omega
    · rintro ⟨h1, _⟩
      exact absurd ⟨l.length - 1, by omega, by rw [← hl]; exact h1⟩ hx
end Go.Proofs.YtgkhelbpccehcaaGreatDoor

/- The steps of the code's walk through a head: host, coding, length, body, connection, expect, each by its plain answer. Conditions: names of at most a million bytes, values of at most 900000 bytes in all. -/
namespace Go.Proofs.YtgkhelbpccehcaaGreatDoor
open Go.RowKit
set_option linter.unusedVariables false
set_option linter.unusedSimpArgs false

/-- The walk in memory. -/
def WkA (w : World) (p : Nat) (el : Bool) (fp : Value) (k l : Int) (c x : Bool) : Prop := Row w p 157 #[.bool el, fp, .int .i64 k, .int .i64 l, .bool c, .bool x]
def minOf (el : Bool) : Int := if el = true then 0 else 1

set_option maxRecDepth 10000 in
theorem ishost_a (v : ByteArray) (w : World) (hs : v.size ≤ 1000000) : Calls Tryz.prog 157 #[.string v] w fun e w' => e = .returned (.bool (decide (v.data.toList = []) || hostL v.data.toList)) ∧ w = w' := by
  have HH := Lib.hid (fun w => host_a v w hs)
  by_cases h : v.data.toList = []
  · have he := text_eq h
    have HE := Lib.hid (decide_eq_true h)
    clear h
    go_enter Tryz.func157, Tryz.ntmps157
    go_wp2
    go_ret
    exact ⟨by rw [HE.out]; rfl, rfl⟩
  · have he := text_ne h
    have HE := Lib.hid (decide_eq_false h)
    clear h
    go_enter Tryz.func157, Tryz.ntmps157
    go_wp2_with (go_at_call 148; refine (HH.out _).mono ?_; rintro e w1 ⟨rfl, rfl⟩)
    go_ret
    exact ⟨by rw [HE.out]; rfl, rfl⟩

/-- The status of the host. -/
def hostS (m : Int) (vs : List ByteArray) : Int := if hostOk m vs = true then 0 else 400
set_option maxRecDepth 10000 in
theorem host_w {w : World} {p : Nat} {el : Bool} {fp : Value} {k l : Int} {c x : Bool} {S : List FV} {B : Nat} (hr : WkA w p el fp k l c x) (hf : FP 93 B w fp S) (hs : Lite S) :
    Calls Tryz.prog 134 #[ptr p] w fun e w' => e = .returned (.int .i64 (hostS (minOf el) (valsF S nHost))) ∧ Mods [] w w' := by
  have c0 : w.cell? ⟨p, 0, none⟩ = some (.bool el) := hr.cell 0
  have c1 : w.cell? ⟨p, 1, none⟩ = some fp := hr.cell 1
  have HV := Lib.hid (vals_p nHost w hf (by decide))
  have HS := Lib.hid (hs.vals nHost)
  obtain ⟨A, rfl⟩ := hf.form
  clear hr hf hs
  unfold ptr
  generalize valsF S nHost = vs at *
  match vs with
  | [] =>
    cases el
    · go_enter Tryz.func134, Tryz.ntmps134
      go_wp2_with (go_at_call 156; refine HV.out.mono ?_; rintro e w1 ⟨u, rfl, hA, hm⟩; obtain ⟨a, cap, rfl⟩ := strs_nil hA; have d0 := cell_mods c0 hm (by simp); have HM := Lib.hid hm; clear hA hm)
      go_ret
      exact ⟨rfl, HM.out⟩
    · go_enter Tryz.func134, Tryz.ntmps134
      go_wp2_with (go_at_call 156; refine HV.out.mono ?_; rintro e w1 ⟨u, rfl, hA, hm⟩; obtain ⟨a, cap, rfl⟩ := strs_nil hA; have d0 := cell_mods c0 hm (by simp); have HM := Lib.hid hm; clear hA hm)
      go_ret
      exact ⟨rfl, HM.out⟩
  | [v] =>
    have HI := Lib.hid (fun w => ishost_a v w (by have := HS.out; simp only [sizes] at this; omega))
    cases hh : (decide (v.data.toList = []) || hostL v.data.toList) with
    | true =>
      rw [hh] at HI
      have HA := Lib.hid (show hostS (minOf el) [v] = 0 by unfold hostS; rw [show hostOk (minOf el) [v] = true from hh]; rfl)
      clear hh
      go_enter Tryz.func134, Tryz.ntmps134
      go_wp2_with (first
        | (go_at_call 156; refine HV.out.mono ?_; rintro e w1 ⟨u, rfl, hA, hm⟩; obtain ⟨b, off, cap, rfl, d1⟩ := strs_one hA; have HM := Lib.hid hm; clear hA hm)
        | (go_at_call 157; refine (HI.out _).mono ?_; rintro e w2 ⟨rfl, rfl⟩))
      go_ret
      exact ⟨by rw [HA.out]; rfl, HM.out⟩
    | false =>
      rw [hh] at HI
      have HA := Lib.hid (show hostS (minOf el) [v] = 400 by unfold hostS; rw [show hostOk (minOf el) [v] = false from hh]; rfl)
      clear hh
      go_enter Tryz.func134, Tryz.ntmps134
      go_wp2_with (first
        | (go_at_call 156; refine HV.out.mono ?_; rintro e w1 ⟨u, rfl, hA, hm⟩; obtain ⟨b, off, cap, rfl, d1⟩ := strs_one hA; have HM := Lib.hid hm; clear hA hm)
        | (go_at_call 157; refine (HI.out _).mono ?_; rintro e w2 ⟨rfl, rfl⟩))
      go_ret
      exact ⟨by rw [HA.out]; rfl, HM.out⟩
  | v :: v2 :: r =>
    go_enter Tryz.func134, Tryz.ntmps134
    go_wp2_with (go_at_call 156; refine HV.out.mono ?_; rintro e w1 ⟨u, rfl, hA, hm⟩; obtain ⟨a, n, cap, rfl, hn⟩ := strs_two hA; have hd : decide (1 < n) = true := decide_eq_true (by omega); have HM := Lib.hid hm; clear hA hm)
    go_ret
    exact ⟨rfl, HM.out⟩

/-! Codings. -/
def chB : ByteArray := ⟨#[99, 104, 117, 110, 107, 101, 100]⟩
theorem cod_elder (cl te : List ByteArray) : codS (minOf true) cl te = 400 := by unfold codS minOf; simp
theorem cod_len {cl te : List ByteArray} (h : cl ≠ []) (m : Int) : codS m cl te = 400 := by unfold codS; rw [if_pos (.inr h)]
theorem cod_none {te : List ByteArray} (h : toksO te = none) : codS 1 [] te = 400 := by unfold codS; rw [h]; simp
theorem cod_nil {te : List ByteArray} (h : toksO te = some []) : codS 1 [] te = 400 := by unfold codS; rw [h]; decide
theorem cod_idx {L : List (List UInt8)} (h0 : L ≠ []) : Lib.idxOfS (L.map ba) chB = (L.length : Int) - 1 ↔ L.getLastD [] = chunkedL ∧ chunkedL ∉ L.dropLast := by
  have h := idx_last (l := L.map ba) (x := chB) (by simpa using h0)
  rw [List.length_map] at h
  rw [h, List.getLast_map, ← List.map_dropLast]
  have hb : chB = ba chunkedL := rfl
  have hg : L.getLastD [] = L.getLast h0 := by
    cases L with
    | nil => exact absurd rfl h0
    | cons a r => rw [List.getLastD_cons]; rw [List.getLast_eq_getLastD]
  rw [hb, hg]
  constructor
  · rintro ⟨h1, h2⟩
    exact ⟨ba_inj h1, fun h => h2 (List.mem_map.2 ⟨_, h, rfl⟩)⟩
  · rintro ⟨h1, h2⟩
    refine ⟨by rw [h1], fun h => ?_⟩
    obtain ⟨y, hy, he⟩ := List.mem_map.1 h
    exact h2 (ba_inj he ▸ hy)
theorem cod_bad {te : List ByteArray} {L : List (List UInt8)} (h : toksO te = some L) (h0 : L ≠ []) (hi : Lib.idxOfS (L.map ba) chB ≠ (L.length : Int) - 1) : codS 1 [] te = 400 := by
  have hn : ¬ (L.getLastD [] = chunkedL ∧ chunkedL ∉ L.dropLast) := fun h => hi ((cod_idx h0).2 h)
  unfold codS
  rw [if_neg (by simp), h]
  simp only
  by_cases h1 : L.getLastD [] ≠ chunkedL
  · rw [if_pos h1]
  · have h1 : L.getLastD [] = chunkedL := Classical.not_not.1 h1
    have h2 : chunkedL ∈ L.dropLast := Classical.byContradiction fun h => hn ⟨h1, h⟩
    rw [if_neg (by simpa using h1), if_neg (fun e => by
      have := List.length_pos_of_mem h2
      rw [List.length_dropLast] at this; omega), if_pos h2]
theorem cod_one {te : List ByteArray} {L : List (List UInt8)} (h : toksO te = some L) (h0 : L ≠ []) (hi : Lib.idxOfS (L.map ba) chB = (L.length : Int) - 1) (h1 : L.length = 1) : codS 1 [] te = 0 := by
  obtain ⟨a, b⟩ := (cod_idx h0).1 hi
  unfold codS
  rw [if_neg (by simp), h]
  simp only
  rw [if_neg (by simpa using a), if_pos h1]
theorem cod_more {te : List ByteArray} {L : List (List UInt8)} (h : toksO te = some L) (h0 : L ≠ []) (hi : Lib.idxOfS (L.map ba) chB = (L.length : Int) - 1) (h1 : L.length ≠ 1) : codS 1 [] te = 501 := by
  obtain ⟨a, b⟩ := (cod_idx h0).1 hi
  unfold codS
  rw [if_neg (by simp), h]
  simp only
  rw [if_neg (by simpa using a), if_neg h1, if_neg b]
theorem strs_map {W : World} {v : Value} {L : List (List UInt8)} (h : StrsAt W v (L.map ba)) : ∃ a cap, v = .slice a L.length cap := by
  obtain ⟨a, cap, h⟩ := h.len; rw [List.length_map] at h; exact ⟨a, cap, h⟩

/-- What a step answers that has found kind and length. -/
def Step (w : World) (p : Nat) (s : Int) (el : Bool) (fp : Value) (k l : Int) (c x : Bool) (e : Ending) (w' : World) : Prop :=
  e = .returned (.int .i64 s) ∧ (s = 0 → WkA w' p el fp k l c x) ∧ Mods [p] w w'
set_option maxRecDepth 10000 in
theorem coding_w {w : World} {p : Nat} {el : Bool} {fp : Value} {k l : Int} {c x : Bool} {S : List FV} {B : Nat} (hr : WkA w p el fp k l c x) (hf : FP 93 B w fp S) (hs : Lite S) :
    Calls Tryz.prog 159 #[ptr p] w (Step w p (codS (minOf el) (valsF S nCL) (valsF S nTE)) el fp 2 l c x) := by
  have c0 : w.cell? ⟨p, 0, none⟩ = some (.bool el) := hr.cell 0
  have c1 : w.cell? ⟨p, 1, none⟩ = some fp := hr.cell 1
  have HS := Lib.hid (hs.vals nTE)
  have HR := Lib.hid hr
  have HH := Lib.hid (has_p nCL w hf (by decide))
  have HV := Lib.hid (fun w' (hm : Mods [] w w') => vals_p nTE w' (hf.low hm) (by decide))
  obtain ⟨A, rfl⟩ := hf.form
  clear hr hf hs
  unfold ptr
  generalize valsF S nTE = te at *
  generalize valsF S nCL = cl at *
  cases el with
  | true =>
    have HC := Lib.hid (cod_elder cl te)
    go_enter Tryz.func159, Tryz.ntmps159
    go_wp2
    go_ret
    exact ⟨by rw [HC.out]; rfl, fun h => absurd (HC.out.symm.trans h) (by decide), Mods.refl _ _⟩
  | false =>
    by_cases hcl : cl = []
    · subst hcl
      rw [show decide (([] : List ByteArray) ≠ []) = false from rfl] at HH
      cases hT : toksO te with
      | none =>
        have HC := Lib.hid (cod_none hT)
        have HT := Lib.hid (fun v w h => tok_n hT v w h HS.out)
        clear hT
        go_enter Tryz.func159, Tryz.ntmps159
        go_wp2_with (first
          | (go_at_call 158; refine HH.out.mono ?_; rintro e w1 ⟨rfl, hm⟩; have d1 := cell_mods c1 hm (by simp); have HM1 := Lib.hid hm; clear hm)
          | (go_at_call 156; refine (HV.out _ HM1.out).mono ?_; rintro e w2 ⟨u, rfl, hA, hm⟩; have HA := Lib.hid hA; have HM2 := Lib.hid (HM1.out.trans hm (fun _ h => nomatch h)); clear hA hm)
          | (go_at_call 161; refine (HT.out _ _ HA.out).mono ?_; rintro e w3 ⟨rfl, hm⟩; have HM3 := Lib.hid (HM2.out.trans hm (fun _ h => nomatch h)); clear hm))
        go_ret
        exact ⟨by rw [show minOf false = 1 from rfl, HC.out]; rfl, fun h => absurd (HC.out.symm.trans h) (by decide), HM3.out.more (by simp)⟩
      | some L =>
        have hlen := Nat.le_trans (toksO_len hT) HS.out
        have HT := Lib.hid (fun v w h => tok_y hT v w h HS.out)
        by_cases h0 : L = []
        · subst h0
          have HC := Lib.hid (cod_nil hT)
          clear hT hlen
          go_enter Tryz.func159, Tryz.ntmps159
          go_wp2_with (first
            | (go_at_call 158; refine HH.out.mono ?_; rintro e w1 ⟨rfl, hm⟩; have d1 := cell_mods c1 hm (by simp); have HM1 := Lib.hid hm; clear hm)
            | (go_at_call 156; refine (HV.out _ HM1.out).mono ?_; rintro e w2 ⟨u, rfl, hA, hm⟩; have HA := Lib.hid hA; have HM2 := Lib.hid (HM1.out.trans hm (fun _ h => nomatch h)); clear hA hm)
            | (go_at_call 161; refine (HT.out _ _ HA.out).mono ?_; rintro e w3 ⟨u2, rfl, hA2, hm⟩; obtain ⟨a, cap, rfl⟩ := strs_nil hA2; have HM3 := Lib.hid (HM2.out.trans hm (fun _ h => nomatch h)); clear hm hA2))
          go_ret
          exact ⟨by rw [show minOf false = 1 from rfl, HC.out]; rfl, fun h => absurd (HC.out.symm.trans h) (by decide), HM3.out.more (by simp)⟩
        · have hpos : 0 < L.length := List.length_pos_iff.2 h0
          have HN := Lib.hid (fun W v (h : StrsAt W v (L.map ba)) => strs_map h)
          have HX := Lib.hid (fun v w h => index_tk (L.map ba) v chB w h (by rw [List.length_map]; omega))
          by_cases hi : Lib.idxOfS (L.map ba) chB = (L.length : Int) - 1
          · have H1 := Lib.hid (cod_one hT h0 hi)
            have H2 := Lib.hid (cod_more hT h0 hi)
            rw [hi] at HX
            clear hT h0 hi
            generalize L.length = n at *
            have hne : (((n : Int) - 1) != ((n : Int) - 1)) = false := by simp
            have hlt : decide ((n : Int) - 1 < 0) = false := decide_eq_false (by omega)
            by_cases h1 : n = 1
            · have HC := Lib.hid (H1.out h1)
              subst h1
              rw [show ((1 : Nat) : Int) - 1 = 0 from rfl] at HX
              clear hne hlt hlen hpos
              clear H1 H2
              go_enter Tryz.func159, Tryz.ntmps159
              go_wp2_with (first
                | (go_at_call 158; refine HH.out.mono ?_; rintro e w1 ⟨rfl, hm⟩; have d1 := cell_mods c1 hm (by simp); have HM1 := Lib.hid hm; clear hm)
                | (go_at_call 156; refine (HV.out _ HM1.out).mono ?_; rintro e w2 ⟨u, rfl, hA, hm⟩; have HA := Lib.hid hA; have HM2 := Lib.hid (HM1.out.trans hm (fun _ h => nomatch h)); clear hA hm)
                | (go_at_call 161; refine (HT.out _ _ HA.out).mono ?_; rintro e w3 ⟨u2, rfl, hA2, hm⟩; have HA2 := Lib.hid hA2; obtain ⟨a, cap, rfl⟩ := HN.out _ _ hA2; have HM3 := Lib.hid (HM2.out.trans hm (fun _ h => nomatch h)); have e2 : w3.cell? ⟨p, 2, none⟩ = some (.int .i64 k) := (HR.out.mods HM3.out (by simp)).cell 2; have g2 : w3.frozen? ⟨p, 2, none⟩ = false := (HR.out.mods HM3.out (by simp)).free 2; clear hm hA2)
                | (go_at_call 191; refine (HX.out _ _ HA2.out).mono ?_; rintro e w4 ⟨rfl, rfl⟩))
              go_ret
              exact ⟨by rw [show minOf false = 1 from rfl, HC.out]; rfl, fun _ => (HR.out.mods HM3.out (by simp)).set 2 _, (HM3.out.more (by simp)).setCell (.inl (by simp)) _⟩
            · have HC := Lib.hid (H2.out h1)
              have hgt : decide ((n : Int) - 1 > 0) = true := decide_eq_true (by omega)
              clear H1 H2
              go_enter Tryz.func159, Tryz.ntmps159
              go_wp2_with (first
                | (go_at_call 158; refine HH.out.mono ?_; rintro e w1 ⟨rfl, hm⟩; have d1 := cell_mods c1 hm (by simp); have HM1 := Lib.hid hm; clear hm)
                | (go_at_call 156; refine (HV.out _ HM1.out).mono ?_; rintro e w2 ⟨u, rfl, hA, hm⟩; have HA := Lib.hid hA; have HM2 := Lib.hid (HM1.out.trans hm (fun _ h => nomatch h)); clear hA hm)
                | (go_at_call 161; refine (HT.out _ _ HA.out).mono ?_; rintro e w3 ⟨u2, rfl, hA2, hm⟩; have HA2 := Lib.hid hA2; obtain ⟨a, cap, rfl⟩ := HN.out _ _ hA2; have HM3 := Lib.hid (HM2.out.trans hm (fun _ h => nomatch h)); clear hm hA2)
                | (go_at_call 191; refine (HX.out _ _ HA2.out).mono ?_; rintro e w4 ⟨rfl, rfl⟩))
              go_ret
              exact ⟨by rw [show minOf false = 1 from rfl, HC.out]; rfl, fun h => absurd (HC.out.symm.trans h) (by decide), HM3.out.more (by simp)⟩
          · have HC := Lib.hid (cod_bad hT h0 hi)
            generalize Lib.idxOfS (L.map ba) chB = i at *
            clear hT h0
            generalize L.length = n at *
            have hne : (i != ((n : Int) - 1)) = true := by simpa using hi
            have hlt : decide ((n : Int) - 1 < 0) = false := decide_eq_false (by omega)
            clear hi
            go_enter Tryz.func159, Tryz.ntmps159
            go_wp2_with (first
              | (go_at_call 158; refine HH.out.mono ?_; rintro e w1 ⟨rfl, hm⟩; have d1 := cell_mods c1 hm (by simp); have HM1 := Lib.hid hm; clear hm)
              | (go_at_call 156; refine (HV.out _ HM1.out).mono ?_; rintro e w2 ⟨u, rfl, hA, hm⟩; have HA := Lib.hid hA; have HM2 := Lib.hid (HM1.out.trans hm (fun _ h => nomatch h)); clear hA hm)
              | (go_at_call 161; refine (HT.out _ _ HA.out).mono ?_; rintro e w3 ⟨u2, rfl, hA2, hm⟩; have HA2 := Lib.hid hA2; obtain ⟨a, cap, rfl⟩ := HN.out _ _ hA2; have HM3 := Lib.hid (HM2.out.trans hm (fun _ h => nomatch h)); clear hm hA2)
              | (go_at_call 191; refine (HX.out _ _ HA2.out).mono ?_; rintro e w4 ⟨rfl, rfl⟩))
            go_ret
            exact ⟨by rw [show minOf false = 1 from rfl, HC.out]; rfl, fun h => absurd (HC.out.symm.trans h) (by decide), HM3.out.more (by simp)⟩
    · rw [show decide (cl ≠ []) = true from decide_eq_true hcl] at HH
      have HC := Lib.hid (cod_len (te := te) hcl (minOf false))
      clear hcl
      go_enter Tryz.func159, Tryz.ntmps159
      go_wp2_with (go_at_call 158; refine HH.out.mono ?_; rintro e w1 ⟨rfl, hm⟩; have HM1 := Lib.hid hm; clear hm)
      go_ret
      exact ⟨by rw [HC.out]; rfl, fun h => absurd (HC.out.symm.trans h) (by decide), HM1.out.more (by simp)⟩
end Go.Proofs.YtgkhelbpccehcaaGreatDoor

/- The steps of the code's walk through a head: length, body, connection, expect. Conditions: names of at most a million bytes, values of at most 900000 bytes in all. -/
namespace Go.Proofs.YtgkhelbpccehcaaGreatDoor
open Go.RowKit
set_option linter.unusedVariables false
set_option linter.unusedSimpArgs false

/-! Lengths. -/
def numF (y : List UInt8) : Int := (numB 10 15 y).1
def goodF (f : Int) (y : List UInt8) : Bool := (numB 10 15 y).2 && numF y == f
theorem lenN_cons (x : List UInt8) (r : List (List UInt8)) : lenN (x :: r) = if (numB 10 15 x).2 = true ∧ r.all (fun y => (numB 10 15 y).2 && (numB 10 15 y).1 == (numB 10 15 x).1) = true then some (numB 10 15 x).1 else none := rfl
theorem lenN_all {x : List UInt8} {r : List (List UInt8)} (h : ∀ j (hj : j < (x :: r).length), goodF (numF x) (x :: r)[j] = true) : lenN (x :: r) = some (numF x) := by
  have h0 := h 0 (by simp)
  unfold goodF at h0
  simp only [List.getElem_cons_zero, Bool.and_eq_true] at h0
  rw [lenN_cons, if_pos ⟨h0.1, List.all_eq_true.2 fun y hy => by
    obtain ⟨j, hj, rfl⟩ := List.mem_iff_getElem.1 hy
    have := h (j + 1) (by simp; omega)
    rw [List.getElem_cons_succ] at this
    exact this⟩]
  rfl
theorem lenN_bad {x : List UInt8} {r : List (List UInt8)} {j : Nat} (hj : j < (x :: r).length) (h : goodF (numF x) (x :: r)[j] = false) : lenN (x :: r) = none := by
  rw [lenN_cons, if_neg]
  rintro ⟨h1, h2⟩
  cases j with
  | zero =>
    rw [List.getElem_cons_zero] at h
    unfold goodF at h
    rw [h1] at h
    simp at h
  | succ j =>
    rw [List.getElem_cons_succ] at h
    have := List.all_eq_true.1 h2 _ (List.getElem_mem (h := by simp at hj; omega))
    unfold goodF at h
    exact absurd (this.symm.trans h) (by simp)
theorem len_toks {cl : List ByteArray} (h : toksO cl = none) : lenS cl = (0, 400) := by unfold lenS; rw [h]
theorem lenv_nil {cl : List ByteArray} (h : toksO cl = some []) : lenS cl = (0, 400) := by unfold lenS; rw [h]; rfl
theorem len_bad {cl : List ByteArray} {L : List (List UInt8)} (h : toksO cl = some L) (h2 : lenN L = none) : lenS cl = (0, 400) := by unfold lenS; rw [h]; simp only; rw [h2]
theorem len_big {cl : List ByteArray} {L : List (List UInt8)} {n : Int} (h : toksO cl = some L) (h2 : lenN L = some n) (h3 : 2048 < n) : lenS cl = (0, 413) := by unfold lenS; rw [h]; simp only; rw [h2]; simp only; rw [if_pos h3]
theorem len_ok {cl : List ByteArray} {L : List (List UInt8)} {n : Int} (h : toksO cl = some L) (h2 : lenN L = some n) (h3 : ¬ 2048 < n) : lenS cl = (n, 0) := by unfold lenS; rw [h]; simp only; rw [h2]; simp only; rw [if_neg h3]
theorem len_facts {cl : List ByteArray} {L : List (List UInt8)} (h : toksO cl = some L) (h0 : 0 < L.length) :
    (∀ j (hj : j < L.length), goodF (numF L[0]) L[j] = false → lenS cl = (0, 400)) ∧
    ((∀ j (hj : j < L.length), goodF (numF L[0]) L[j] = true) → 2048 < numF L[0] → lenS cl = (0, 413)) ∧
    ((∀ j (hj : j < L.length), goodF (numF L[0]) L[j] = true) → ¬ 2048 < numF L[0] → lenS cl = (numF L[0], 0)) := by
  match L, h0 with
  | y :: r, h0 => exact ⟨fun j hj hb => len_bad h (lenN_bad hj hb), fun ha h3 => len_big h (lenN_all ha) h3, fun ha h3 => len_ok h (lenN_all ha) h3⟩
theorem strs_at {W : World} {v : Value} {L : List (List UInt8)} (h : StrsAt W v (L.map ba)) (h0 : 0 < L.length) : ∃ (b off cap : Nat), v = .slice (some ⟨b, off, none⟩) L.length cap ∧ ∀ j (h : j < L.length), W.cell? ⟨b, off + j, none⟩ = some (.string (ba L[j])) := by
  rcases h with ⟨h, _⟩ | ⟨b, off, cap, hv, h0, hb, hc⟩
  · have := congrArg List.length h
    rw [List.length_map] at this
    rw [List.length_nil] at this; omega
  · refine ⟨b, off, cap, by rw [hv, List.length_map], fun j hj => ?_⟩
    have := hc j (by rw [List.length_map]; exact hj)
    rw [List.getElem_map] at this; exact this
theorem tok_size {ts : List ByteArray} {L : List (List UInt8)} (h : toksO ts = some L) (hs : sizes ts ≤ 900000) : ∀ j (hj : j < L.length), (ba L[j]).size ≤ 1000000 := fun j hj => by
  obtain ⟨p, hp, hle⟩ := tokO_size h (List.getElem_mem hj)
  have := partsO_size hp
  have e : (ba L[j]).size = L[j].length := rfl
  omega

set_option maxRecDepth 10000 in
set_option maxHeartbeats 1000000 in
theorem length_w {w : World} {p : Nat} {el : Bool} {fp : Value} {k l : Int} {c x : Bool} {S : List FV} {B : Nat} (hr : WkA w p el fp k l c x) (hf : FP 93 B w fp S) (hs : Lite S) :
    Calls Tryz.prog 160 #[ptr p] w (Step w p (lenS (valsF S nCL)).2 el fp 1 (lenS (valsF S nCL)).1 c x) := by
  have c1 : w.cell? ⟨p, 1, none⟩ = some fp := hr.cell 1
  have HS := Lib.hid (hs.vals nCL)
  have HR := Lib.hid hr
  have HV := Lib.hid (vals_p nCL w hf (by decide))
  obtain ⟨A, rfl⟩ := hf.form
  clear hr hf hs
  unfold ptr
  generalize valsF S nCL = cl at *
  cases hT : toksO cl with
  | none =>
    have HC := Lib.hid (len_toks hT)
    have HT := Lib.hid (fun v w h => tok_n hT v w h HS.out)
    clear hT
    go_enter Tryz.func160, Tryz.ntmps160
    go_wp2_with (first
      | (go_at_call 156; refine HV.out.mono ?_; rintro e w2 ⟨u, rfl, hA, hm⟩; have HA := Lib.hid hA; have HM2 := Lib.hid hm; clear hA hm)
      | (go_at_call 161; refine (HT.out _ _ HA.out).mono ?_; rintro e w3 ⟨rfl, hm⟩; have HM3 := Lib.hid (HM2.out.trans hm (fun _ h => nomatch h)); clear hm))
    go_ret
    exact ⟨by rw [HC.out]; rfl, fun h => absurd ((congrArg Prod.snd HC.out).symm.trans h) (by decide), HM3.out.more (by simp)⟩
  | some L =>
    have hlen := Nat.le_trans (toksO_len hT) HS.out
    have HT := Lib.hid (fun v w h => tok_y hT v w h HS.out)
    by_cases hn : L = []
    · subst hn
      have HC := Lib.hid (lenv_nil hT)
      clear hT hlen
      go_enter Tryz.func160, Tryz.ntmps160
      go_wp2_with (first
        | (go_at_call 156; refine HV.out.mono ?_; rintro e w2 ⟨u, rfl, hA, hm⟩; have HA := Lib.hid hA; have HM2 := Lib.hid hm; clear hA hm)
        | (go_at_call 161; refine (HT.out _ _ HA.out).mono ?_; rintro e w3 ⟨u2, rfl, hA2, hm⟩; obtain ⟨a, cap, rfl⟩ := strs_nil hA2; have HM3 := Lib.hid (HM2.out.trans hm (fun _ h => nomatch h)); clear hm hA2))
      go_ret
      exact ⟨by rw [HC.out]; rfl, fun h => absurd ((congrArg Prod.snd HC.out).symm.trans h) (by decide), HM3.out.more (by simp)⟩
    · have h0 : 0 < L.length := List.length_pos_iff.2 hn
      have HSZ := tok_size hT HS.out
      obtain ⟨hbad, hbig, hok⟩ := len_facts hT h0
      have HN := Lib.hid (fun W v (h : StrsAt W v (L.map ba)) => strs_at h h0)
      have HNU := Lib.hid (fun w j (hj : j < L.length) => num_A (ba L[j]) w (HSZ j hj))
      unfold NumIs at HNU
      have HBAD := Lib.hid hbad
      have HBIG := Lib.hid hbig
      have HOK := Lib.hid hok
      obtain ⟨f, hf⟩ : ∃ f, f = numF L[0] := ⟨_, rfl⟩
      have HF := Lib.hid (show (numB 10 15 L[0]).1 = f from hf.symm)
      rw [← hf] at HBAD HBIG HOK
      clear hT hn hbad hbig hok HSZ hf
      have hn0 := fun w => HNU.out w 0 h0
      rw [show (ba L[0]).data.toList = L[0] from rfl, HF.out] at hn0
      generalize (numB 10 15 L[0]).2 = ok0 at hn0
      have HN0 := Lib.hid hn0
      clear hn0
      have hne : decide ((L.length : Int) = 0) = false := decide_eq_false (by omega)
      go_enter Tryz.func160, Tryz.ntmps160
      go_wp2_with (first
        | (go_at_call 156; refine HV.out.mono ?_; rintro e w2 ⟨u, rfl, hA, hm⟩; have HA := Lib.hid hA; have HM2 := Lib.hid hm; clear hA hm)
        | (go_at_call 161; refine (HT.out _ _ HA.out).mono ?_; rintro e w3 ⟨u2, rfl, hA2, hm⟩; obtain ⟨b, off, cap, rfl, hc⟩ := HN.out _ _ hA2; have HM3 := Lib.hid (HM2.out.trans hm (fun _ h => nomatch h)); have d0 : w3.cell? ⟨b, off, none⟩ = some (.string (ba L[0])) := hc 0 h0; have HC := Lib.hid hc; clear hm hA2 hc)
        | (go_at_call 192; refine (HN0.out _).mono ?_; rintro e w4 ⟨rfl, rfl⟩))
      go_loopw [36] (fun i wr => ∃ k : Nat, k ≤ L.length ∧ i = .int .i64 k ∧ Mods [] w wr ∧ (∀ j (h : j < L.length), wr.cell? ⟨b, off + j, none⟩ = some (.string (ba L[j]))) ∧ ∀ j (hj : j < L.length), j < k → goodF f L[j] = true) (fun i _ => L.length - (intOf i).toNat)
      case atStart => exact ⟨0, Nat.zero_le _, rfl, HM3.out, HC.out, fun j _ h => absurd h (Nat.not_lt_zero _)⟩
      case round =>
        obtain ⟨k1, hk, rfl, hm, hc, hgood⟩ := hrel
        have HM := Lib.hid hm
        have HCW := Lib.hid hc
        have HG := Lib.hid hgood
        clear hm hc hgood
        by_cases hlt : k1 < L.length
        · have ck := HCW.out k1 hlt
          have hnu := fun w => HNU.out w k1 hlt
          have hgq : goodF f L[k1] = ((numB 10 15 L[k1]).2 && (numB 10 15 L[k1]).1 == f) := rfl
          have HBK := Lib.hid (HBAD.out k1 hlt)
          have HGK := Lib.hid (fun (h : goodF f L[k1] = true) => show ∀ j (hj : j < L.length), j < k1 + 1 → goodF f L[j] = true from fun j hj hjk => by
            by_cases e : j = k1
            · subst e; exact h
            · exact HG.out j hj (by omega))
          rw [show (ba L[k1]).data.toList = L[k1] from rfl] at hnu
          obtain ⟨xs, hxs⟩ : ∃ xs, xs = ba L[k1] := ⟨_, rfl⟩
          obtain ⟨q, hq⟩ : ∃ q, q = numB 10 15 L[k1] := ⟨_, rfl⟩
          rw [← hxs] at ck hnu
          rw [← hq] at hnu hgq
          have HNK := Lib.hid hnu
          clear hxs hq hnu
          obtain ⟨n, ok⟩ := q
          simp only at hgq HNK
          cases ok with
          | false =>
            have HB := Lib.hid (HBK.out (by rw [hgq]; rfl))
            clear hgq
            go_wp2_with (go_at_call 192; refine (HNK.out _).mono ?_; rintro e w5 ⟨rfl, rfl⟩)
            go_ret
            exact ⟨by rw [HB.out]; rfl, fun h => absurd ((congrArg Prod.snd HB.out).symm.trans h) (by decide), HM.out.more (by simp)⟩
          | true =>
            by_cases hnf : n = f
            · have HGN := Lib.hid (HGK.out (by rw [hgq]; simp [hnf]))
              have hno : (n != f) = false := by simp [hnf]
              clear hgq hnf
              go_wp2_with (go_at_call 192; refine (HNK.out _).mono ?_; rintro e w5 ⟨rfl, rfl⟩)
              go_roundw
              case rel => exact ⟨k1 + 1, by omega, by go_num, HM.out, HCW.out, HGN.out⟩
              case measure => simp [intOf]; omega
            · have HB := Lib.hid (HBK.out (by rw [hgq]; simpa using hnf))
              have hno : (n != f) = true := by simpa using hnf
              clear hgq hnf
              go_wp2_with (go_at_call 192; refine (HNK.out _).mono ?_; rintro e w5 ⟨rfl, rfl⟩)
              go_ret
              exact ⟨by rw [HB.out]; rfl, fun h => absurd ((congrArg Prod.snd HB.out).symm.trans h) (by decide), HM.out.more (by simp)⟩
        · have hall := fun j (hj : j < L.length) => HG.out j hj (by omega)
          have e2 : wr.cell? ⟨p, 2, none⟩ = some (.int .i64 k) := (HR.out.mods HM.out (by simp)).cell 2
          have g2 : wr.frozen? ⟨p, 2, none⟩ = false := (HR.out.mods HM.out (by simp)).free 2
          have e3 : wr.cell? ⟨p, 3, none⟩ = some (.int .i64 l) := (HR.out.mods HM.out (by simp)).cell 3
          have g3 : wr.frozen? ⟨p, 3, none⟩ = false := (HR.out.mods HM.out (by simp)).free 3
          by_cases hb : 2048 < f
          · have HB := Lib.hid (HBIG.out hall hb)
            clear hall
            go_wp2
            go_ret
            exact ⟨by rw [HB.out]; rfl, fun h => absurd ((congrArg Prod.snd HB.out).symm.trans h) (by decide), HM.out.more (by simp)⟩
          · have HB := Lib.hid (HOK.out hall (by omega))
            clear hall
            go_wp2
            go_ret
            exact ⟨by rw [HB.out]; rfl, fun _ => by rw [HB.out]; exact ((HR.out.mods HM.out (by simp)).set 2 _).set 3 _, ((HM.out.more (by simp)).setCell (.inl (by simp)) _).setCell (.inl (by simp)) _⟩

/-! Body: by a coding, a length, none. -/
theorem body_te {m : Int} {S : List FV} (h : valsF S nTE ≠ []) : bodyS m S = (2, 0, codS m (valsF S nCL) (valsF S nTE)) := by unfold bodyS; rw [if_pos h]
theorem body_cl {m : Int} {S : List FV} (h : valsF S nTE = []) (h2 : valsF S nCL ≠ []) : bodyS m S = (1, (lenS (valsF S nCL)).1, (lenS (valsF S nCL)).2) := by unfold bodyS; rw [if_neg (by simpa using h), if_pos h2]
theorem body_no {m : Int} {S : List FV} (h : valsF S nTE = []) (h2 : valsF S nCL = []) : bodyS m S = (0, 0, 0) := by unfold bodyS; rw [if_neg (by simpa using h), if_neg (by simpa using h2)]
set_option maxRecDepth 10000 in
theorem body_w {w : World} {p : Nat} {el : Bool} {fp : Value} {k : Int} {c x : Bool} {S : List FV} {B : Nat} (hr : WkA w p el fp k 0 c x) (hf : FP 93 B w fp S) (hs : Lite S) :
    Calls Tryz.prog 135 #[ptr p] w (Step w p (bodyS (minOf el) S).2.2 el fp (bodyS (minOf el) S).1 (bodyS (minOf el) S).2.1 c x) := by
  have c1 : w.cell? ⟨p, 1, none⟩ = some fp := hr.cell 1
  have HR := Lib.hid hr
  have HT := Lib.hid (has_p nTE w hf (by decide))
  have HL := Lib.hid (fun w' (hm : Mods [] w w') => has_p nCL w' (hf.low hm) (by decide))
  have HCW := Lib.hid (fun w' (hm : Mods [] w w') => coding_w (hr.mods hm (by simp)) (hf.low hm) hs)
  have HLW := Lib.hid (fun w' (hm : Mods [] w w') => length_w (hr.mods hm (by simp)) (hf.low hm) hs)
  obtain ⟨A, rfl⟩ := hf.form
  clear hr hf hs
  unfold ptr at *
  by_cases hte : valsF S nTE = []
  · rw [show decide (valsF S nTE ≠ []) = false from decide_eq_false (by simpa using hte)] at HT
    by_cases hcl : valsF S nCL = []
    · rw [show decide (valsF S nCL ≠ []) = false from decide_eq_false (by simpa using hcl)] at HL
      have HB := Lib.hid (body_no (m := minOf el) hte hcl)
      clear hte hcl HCW HLW
      go_enter Tryz.func135, Tryz.ntmps135
      go_wp2_with (first
        | (go_at_call 158; (with_reducible show Calls _ _ #[_, .string ⟨#[84, 114, 97, 110, 115, 102, 101, 114, 45, 69, 110, 99, 111, 100, 105, 110, 103]⟩] _ _); refine HT.out.mono ?_; rintro e w1 ⟨rfl, hm⟩; have d1 := cell_mods c1 hm (by simp); have HM1 := Lib.hid hm; clear hm)
        | (go_at_call 158; refine (HL.out _ HM1.out).mono ?_; rintro e w2 ⟨rfl, hm⟩; have HM2 := Lib.hid (HM1.out.trans hm (fun _ h => nomatch h)); have e2 : w2.cell? ⟨p, 2, none⟩ = some (.int .i64 k) := (HR.out.mods HM2.out (by simp)).cell 2; have g2 : w2.frozen? ⟨p, 2, none⟩ = false := (HR.out.mods HM2.out (by simp)).free 2; clear hm))
      go_ret
      rw [HB.out]
      exact ⟨rfl, fun _ => (HR.out.mods HM2.out (by simp)).set 2 _, (HM2.out.more (by simp)).setCell (.inl (by simp)) _⟩
    · rw [show decide (valsF S nCL ≠ []) = true from decide_eq_true hcl] at HL
      have HB := Lib.hid (body_cl (m := minOf el) hte hcl)
      clear hte hcl HCW
      go_enter Tryz.func135, Tryz.ntmps135
      go_wp2_with (first
        | (go_at_call 158; (with_reducible show Calls _ _ #[_, .string ⟨#[84, 114, 97, 110, 115, 102, 101, 114, 45, 69, 110, 99, 111, 100, 105, 110, 103]⟩] _ _); refine HT.out.mono ?_; rintro e w1 ⟨rfl, hm⟩; have d1 := cell_mods c1 hm (by simp); have HM1 := Lib.hid hm; clear hm)
        | (go_at_call 158; refine (HL.out _ HM1.out).mono ?_; rintro e w2 ⟨rfl, hm⟩; have HM2 := Lib.hid (HM1.out.trans hm (fun _ h => nomatch h)); clear hm)
        | (go_at_call 160; refine (HLW.out _ HM2.out).mono ?_; rintro e w3 ⟨rfl, hs, hm⟩; have HS3 := Lib.hid hs; have HM3 := Lib.hid ((HM2.out.more (F2 := [p]) (by simp)).trans hm (fun _ h => .inl h)); clear hm hs))
      go_ret
      rw [HB.out]
      exact ⟨rfl, HS3.out, HM3.out⟩
  · rw [show decide (valsF S nTE ≠ []) = true from decide_eq_true hte] at HT
    have HB := Lib.hid (body_te (m := minOf el) hte)
    clear hte HL HLW
    go_enter Tryz.func135, Tryz.ntmps135
    go_wp2_with (first
      | (go_at_call 158; refine HT.out.mono ?_; rintro e w1 ⟨rfl, hm⟩; have HM1 := Lib.hid hm; clear hm)
      | (go_at_call 159; refine (HCW.out _ HM1.out).mono ?_; rintro e w3 ⟨rfl, hs, hm⟩; have HS3 := Lib.hid hs; have HM3 := Lib.hid ((HM1.out.more (F2 := [p]) (by simp)).trans hm (fun _ h => .inl h)); clear hm hs))
    go_ret
    rw [HB.out]
    exact ⟨rfl, HS3.out, HM3.out⟩
end Go.Proofs.YtgkhelbpccehcaaGreatDoor

/- The steps of the code's walk through a head: connection, expect; and Of: how a request goes on, or the status by which it is refused. Conditions: names of at most a million bytes, values of at most 900000 bytes in all. -/
namespace Go.Proofs.YtgkhelbpccehcaaGreatDoor
open Go.RowKit
set_option linter.unusedVariables false
set_option linter.unusedSimpArgs false

def clB : ByteArray := ⟨#[99, 108, 111, 115, 101]⟩
def kpB : ByteArray := ⟨#[107, 101, 101, 112, 45, 97, 108, 105, 118, 101]⟩
theorem has_close {con : List ByteArray} {L : List (List UInt8)} (h : toksO con = some L) : hasL closeL con = Lib.containsS (L.map ba) clB := by
  unfold hasL; rw [h, show clB = ba closeL from rfl, has_contains, show lowL closeL = closeL by decide +kernel]
theorem has_keep {con : List ByteArray} {L : List (List UInt8)} (h : toksO con = some L) : hasL keepL con = Lib.containsS (L.map ba) kpB := by
  unfold hasL; rw [h, show kpB = ba keepL from rfl, has_contains, show lowL keepL = keepL by decide +kernel]
/-- The status of Connection. -/
def conS (con : List ByteArray) : Int := if toksO con = none then 400 else 0
set_option maxRecDepth 10000 in
set_option maxHeartbeats 1000000 in
theorem connection_w {w : World} {p : Nat} {el : Bool} {fp : Value} {k l : Int} {c x : Bool} {S : List FV} {B : Nat} (hr : WkA w p el fp k l c x) (hf : FP 93 B w fp S) (hs : Lite S) :
    Calls Tryz.prog 136 #[ptr p] w (Step w p (conS (valsF S nCon)) el fp k l (closeS (minOf el) (valsF S nCon)) x) := by
  have c1 : w.cell? ⟨p, 1, none⟩ = some fp := hr.cell 1
  have HS := Lib.hid (hs.vals nCon)
  have HR := Lib.hid hr
  have HV := Lib.hid (vals_p nCon w hf (by decide))
  obtain ⟨A, rfl⟩ := hf.form
  clear hr hf hs
  unfold ptr
  generalize valsF S nCon = con at *
  cases hT : toksO con with
  | none =>
    have HC := Lib.hid (show conS con = 400 by unfold conS; rw [if_pos hT])
    have HT := Lib.hid (fun v w h => tok_n hT v w h HS.out)
    clear hT
    go_enter Tryz.func136, Tryz.ntmps136
    go_wp2_with (first
      | (go_at_call 156; refine HV.out.mono ?_; rintro e w2 ⟨u, rfl, hA, hm⟩; have HA := Lib.hid hA; have HM2 := Lib.hid hm; clear hA hm)
      | (go_at_call 161; refine (HT.out _ _ HA.out).mono ?_; rintro e w3 ⟨rfl, hm⟩; have HM3 := Lib.hid (HM2.out.trans hm (fun _ h => nomatch h)); clear hm))
    go_ret
    exact ⟨by rw [HC.out]; rfl, fun h => absurd (HC.out.symm.trans h) (by decide), HM3.out.more (by simp)⟩
  | some L =>
    have hlen := Nat.le_trans (toksO_len hT) HS.out
    have HT := Lib.hid (fun v w h => tok_y hT v w h HS.out)
    have HC := Lib.hid (show conS con = 0 by unfold conS; rw [if_neg (by rw [hT]; simp)])
    have hcc : closeS (minOf el) con = (Lib.containsS (L.map ba) clB || (decide (minOf el = 0) && !Lib.containsS (L.map ba) kpB)) := by unfold closeS; rw [has_close hT, has_keep hT]
    have H1 := Lib.hid (fun v w h => contains_any (L.map ba) v clB w h (by rw [List.length_map]; omega))
    have H2 := Lib.hid (fun v w h => contains_any (L.map ba) v kpB w h (by rw [List.length_map]; omega))
    generalize Lib.containsS (L.map ba) clB = bc at *
    generalize Lib.containsS (L.map ba) kpB = bk at *
    have HCC := Lib.hid hcc
    have HN := Lib.hid (fun W v (h : StrsAt W v (L.map ba)) => strs_map h)
    clear hT hcc hlen
    cases bc <;> cases el <;> cases bk
    all_goals
      go_enter Tryz.func136, Tryz.ntmps136
      go_wp2_with (first
        | (go_at_call 156; refine HV.out.mono ?_; rintro e w2 ⟨u, rfl, hA, hm⟩; have HA := Lib.hid hA; have HM2 := Lib.hid hm; clear hA hm)
        | (go_at_call 161; refine (HT.out _ _ HA.out).mono ?_; rintro e w3 ⟨u2, rfl, hA2, hm⟩; have HA2 := Lib.hid hA2; have HM3 := Lib.hid (HM2.out.trans hm (fun _ h => nomatch h)); obtain ⟨a, cap, rfl⟩ := HN.out _ _ hA2; have d0 := (HR.out.mods HM3.out (by simp)).cell 0; have d4 := (HR.out.mods HM3.out (by simp)).cell 4; have g4 := (HR.out.mods HM3.out (by simp)).free 4; simp only [List.getElem?_toArray, List.getElem?_cons_zero, List.getElem?_cons_succ] at d0 d4; clear hm hA2)
        | (go_at_call 162; (with_reducible show Calls _ _ #[_, .string ⟨#[99, 108, 111, 115, 101]⟩] _ _); refine (H1.out _ _ HA2.out).mono ?_; rintro e w4 ⟨rfl, rfl⟩)
        | (go_at_call 162; (with_reducible show Calls _ _ #[_, .string ⟨#[107, 101, 101, 112, 45, 97, 108, 105, 118, 101]⟩] _ _); refine (H2.out _ _ HA2.out).mono ?_; rintro e w5 ⟨rfl, rfl⟩))
      go_ret
      exact ⟨by rw [HC.out]; rfl, fun _ => by rw [HCC.out]; exact (HR.out.mods HM3.out (by simp)).set 4 _, (HM3.out.more (by simp)).setCell (.inl (by simp)) _⟩

/-- The status of Expect, and whether somebody waits. -/
def expS (m : Int) (S : List FV) : Int := if m = 1 ∧ valsF S nExp ≠ [] ∧ sameL (getF S nExp) contB = false then 417 else 0
def expX (m k l : Int) (S : List FV) : Bool := decide (m = 1 ∧ valsF S nExp ≠ []) && (k == 2 || decide (0 < l))
theorem getF_size {S : List FV} (hl : S.length ≤ 24) (hs : Small S) (n : ByteArray) : (getF S n).size ≤ 24000048 := by
  have h := join_bound _ (valsF_small hs n)
  have h2 := valsF_len S n
  have h3 : (getF S n).size = (getL S n).length := rfl
  have h4 := Nat.mul_le_mul_right 1000002 (show (valsF S n).length ≤ 24 by omega)
  unfold getL at h3
  omega
theorem FP.same {t : TypeId} {B : Nat} {w : World} {fp : Value} {S : List FV} (h : FP t B w fp S) : S.length ≤ 24 ∧ Small S := by
  rcases h with ⟨_, rfl⟩ | ⟨g, v, _, hf, _⟩
  · exact ⟨by simp, fun _ h => nomatch h⟩
  · exact ⟨hf.len, hf.small⟩
set_option maxRecDepth 10000 in
set_option maxHeartbeats 1000000 in
theorem expect_w {w : World} {p : Nat} {el : Bool} {fp : Value} {k l : Int} {c : Bool} {S : List FV} {B : Nat} (hr : WkA w p el fp k l c false) (hf : FP 93 B w fp S) (hs : Lite S) :
    Calls Tryz.prog 137 #[ptr p] w (Step w p (expS (minOf el) S) el fp k l c (expX (minOf el) k l S)) := by
  have c0 : w.cell? ⟨p, 0, none⟩ = some (.bool el) := hr.cell 0
  have c1 : w.cell? ⟨p, 1, none⟩ = some fp := hr.cell 1
  have HR := Lib.hid hr
  have HH := Lib.hid (has_p nExp w hf (by decide))
  cases el with
  | true =>
    have HC := Lib.hid (show expS (minOf true) S = 0 by unfold expS minOf; simp)
    have HX := Lib.hid (show expX (minOf true) k l S = false by unfold expX minOf; simp)
    obtain ⟨A, rfl⟩ := hf.form
    clear hr hf hs
    unfold ptr
    go_enter Tryz.func137, Tryz.ntmps137
    go_wp2
    go_ret
    exact ⟨by rw [HC.out]; rfl, fun _ => by rw [HX.out]; exact HR.out, Mods.refl _ _⟩
  | false =>
    by_cases hv : valsF S nExp = []
    · rw [show decide (valsF S nExp ≠ []) = false from decide_eq_false (by simpa using hv)] at HH
      have HC := Lib.hid (show expS (minOf false) S = 0 by unfold expS; rw [hv]; simp)
      have HX := Lib.hid (show expX (minOf false) k l S = false by unfold expX; rw [hv]; simp)
      obtain ⟨A, rfl⟩ := hf.form
      clear hr hf hs hv
      unfold ptr
      go_enter Tryz.func137, Tryz.ntmps137
      go_wp2_with (go_at_call 158; refine HH.out.mono ?_; rintro e w1 ⟨rfl, hm⟩; have HM1 := Lib.hid hm; clear hm)
      go_ret
      exact ⟨by rw [HC.out]; rfl, fun _ => by rw [HX.out]; exact HR.out.mods HM1.out (by simp), HM1.out.more (by simp)⟩
    · rw [show decide (valsF S nExp ≠ []) = true from decide_eq_true hv] at HH
      have hgs := getF_size hf.same.1 hf.same.2 nExp
      have HG := Lib.hid (fun w' (hm : Mods [] w w') => get_p nExp w' (hf.low hm) (by decide) hv)
      have HSM := Lib.hid (fun w => same_a (getF S nExp) contB w (by unfold maxLen; omega) (by decide))
      have HX := Lib.hid (show expX (minOf false) k l S = (k == 2 || decide (0 < l)) by unfold expX; rw [decide_eq_true ⟨rfl, hv⟩]; rfl)
      have hce : expS (minOf false) S = if sameL (getF S nExp) contB = false then 417 else 0 := by
        unfold expS
        by_cases h : sameL (getF S nExp) contB = false
        · rw [if_pos ⟨rfl, hv, h⟩, if_pos h]
        · rw [if_neg (fun h2 => h h2.2.2), if_neg h]
      obtain ⟨A, rfl⟩ := hf.form
      generalize getF S nExp = gx at *
      generalize sameL gx contB = bs at *
      clear hr hf hs hv
      unfold ptr
      cases bs with
      | false =>
        have HC := Lib.hid (show expS (minOf false) S = 417 by rw [hce]; rfl)
        clear hce
        go_enter Tryz.func137, Tryz.ntmps137
        go_wp2_with (first
          | (go_at_call 158; refine HH.out.mono ?_; rintro e w1 ⟨rfl, hm⟩; have HM1 := Lib.hid hm; have d1 := cell_mods c1 hm (by simp); clear hm)
          | (go_at_call 163; refine (HG.out _ HM1.out).mono ?_; rintro e w2 ⟨rfl, hm⟩; have HM2 := Lib.hid (HM1.out.trans hm (fun _ h => nomatch h)); clear hm)
          | (go_at_call 154; refine (HSM.out _).mono ?_; rintro e w3 ⟨rfl, nn, hd⟩; have HM3 := Lib.hid (show Mods [] w w3 by rw [hd]; exact HM2.out.drewN nn); clear hd))
        go_ret
        exact ⟨by rw [HC.out]; rfl, fun h => absurd (HC.out.symm.trans h) (by decide), HM3.out.more (by simp)⟩
      | true =>
        have HC := Lib.hid (show expS (minOf false) S = 0 by rw [hce]; rfl)
        clear hce
        by_cases hk : k = 2
        · subst hk
          go_enter Tryz.func137, Tryz.ntmps137
          go_wp2_with (first
            | (go_at_call 158; refine HH.out.mono ?_; rintro e w1 ⟨rfl, hm⟩; have HM1 := Lib.hid hm; have d1 := cell_mods c1 hm (by simp); clear hm)
            | (go_at_call 163; refine (HG.out _ HM1.out).mono ?_; rintro e w2 ⟨rfl, hm⟩; have HM2 := Lib.hid (HM1.out.trans hm (fun _ h => nomatch h)); clear hm)
            | (go_at_call 154; refine (HSM.out _).mono ?_; rintro e w3 ⟨rfl, nn, hd⟩; have HM3 := Lib.hid (show Mods [] w w3 by rw [hd]; exact HM2.out.drewN nn); have d2 : w3.cell? ⟨p, 2, none⟩ = some (.int .i64 2) := (HR.out.mods HM3.out (by simp)).cell 2; have d5 : w3.cell? ⟨p, 5, none⟩ = some (.bool false) := (HR.out.mods HM3.out (by simp)).cell 5; have g5 : w3.frozen? ⟨p, 5, none⟩ = false := (HR.out.mods HM3.out (by simp)).free 5; clear hd))
          go_ret
          exact ⟨by rw [HC.out]; rfl, fun _ => by rw [HX.out]; exact (HR.out.mods HM3.out (by simp)).set 5 _, (HM3.out.more (by simp)).setCell (.inl (by simp)) _⟩
        · have hk1 : (k == 2) = false := by simpa using hk
          clear hk
          rw [hk1, Bool.false_or] at HX
          go_enter Tryz.func137, Tryz.ntmps137
          go_wp2_with (first
            | (go_at_call 158; refine HH.out.mono ?_; rintro e w1 ⟨rfl, hm⟩; have HM1 := Lib.hid hm; have d1 := cell_mods c1 hm (by simp); clear hm)
            | (go_at_call 163; refine (HG.out _ HM1.out).mono ?_; rintro e w2 ⟨rfl, hm⟩; have HM2 := Lib.hid (HM1.out.trans hm (fun _ h => nomatch h)); clear hm)
            | (go_at_call 154; refine (HSM.out _).mono ?_; rintro e w3 ⟨rfl, nn, hd⟩; have HM3 := Lib.hid (show Mods [] w w3 by rw [hd]; exact HM2.out.drewN nn); have d2 : w3.cell? ⟨p, 2, none⟩ = some (.int .i64 k) := (HR.out.mods HM3.out (by simp)).cell 2; have d3 : w3.cell? ⟨p, 3, none⟩ = some (.int .i64 l) := (HR.out.mods HM3.out (by simp)).cell 3; have d5 : w3.cell? ⟨p, 5, none⟩ = some (.bool false) := (HR.out.mods HM3.out (by simp)).cell 5; have g5 : w3.frozen? ⟨p, 5, none⟩ = false := (HR.out.mods HM3.out (by simp)).free 5; clear hd))
          go_ret
          exact ⟨by rw [HC.out]; rfl, fun _ => by rw [HX.out]; exact (HR.out.mods HM3.out (by simp)).set 5 _, (HM3.out.more (by simp)).setCell (.inl (by simp)) _⟩
end Go.Proofs.YtgkhelbpccehcaaGreatDoor
